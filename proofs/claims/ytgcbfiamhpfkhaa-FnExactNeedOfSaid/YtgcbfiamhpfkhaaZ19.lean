/- Texts of this proof, one behind the other: EP1, EP2, EP3, EP4, EP4n, EP5. -/
import Derived.Test.YtgcbfiamhpfkhaaZ20
import Derived.WalkKit
import Derived.WalkSpells
import Derived.WalkLawsBesides
import Derived.BigRegion
import Derived.BigQuiet
import Derived.Lib.Hide
/- cvTile at the tile 1. -/
namespace Go.Proofs.Ytgcbfiamhpfkhaa
open Go.RowKit
set_option linter.unusedVariables false
set_option linter.unusedSimpArgs false

set_option maxRecDepth 100000 in
set_option maxHeartbeats 8000000 in
theorem cvTile_1 (L B : Nat) (A : Option Addr) (c : Nat) (es : List Nd) (k : Nat) (hk : k < es.length) (w : World) (hes : NS w L B A es) (hB : B ≤ w.heap.size) :
    Calls Try.prog 73 #[.slice A es.length c, .int .i64 (k : Int), .int .i64 1] w (TileM w (mt es es[k] 1)) := by
  obtain ⟨b0, o0, rfl, ⟨_, hbB⟩, hc⟩ := hes (by omega)
  have hbw : b0 < w.heap.size := by omega
  obtain ⟨c1, c2, c3, c4⟩ := hc k hk
  have hB1 := fun o => Lib.hid ((Below.refl w.heap.size w).alloc (Nat.le_refl _) o)
  clear hc hes hB hbB
  have k1 : (k : Int) < (es.length : Int) := by omega
  have hm : Hid (mt es es[k] 1 = if (es[k].op.toList == [99,111,110,115,116]) = true then some ⟨1, [], [], 1⟩ else none) := rfl
  have hm1 : ((mt es es[k] 1).map Ti.ps).getD [] = [] := by rw [hm.out]; split <;> rfl
  have hm2 : ((mt es es[k] 1).map Ti.ins).getD [] = [] := by rw [hm.out]; split <;> rfl
  have hm3 : (mt es es[k] 1).isSome = (es[k].op.toList == [99,111,110,115,116]) := by rw [hm.out]; cases (es[k].op.toList == [99,111,110,115,116]) <;> rfl
  have H1 := Lib.hid hm1; have H2 := Lib.hid hm2; have H3 := Lib.hid hm3
  clear hm hm1 hm2 hm3
  generalize mt es es[k] 1 = o at *
  generalize es[k] = nd at *
  obtain ⟨s, a, b, v⟩ := nd
  dsimp only at c1 c2 c3 c4 H3
  go_enter Try.func73, Try.ntmps73
  go_wp2
  go_quiet (fail)
  go_wp2
  go_ret3
  exact TileM.no H1.out H2.out H3.out (belowDrewN (hB1 _).out _)
end Go.Proofs.Ytgcbfiamhpfkhaa

/- cvTile at the tile 2. -/
namespace Go.Proofs.Ytgcbfiamhpfkhaa
open Go.RowKit
set_option linter.unusedVariables false
set_option linter.unusedSimpArgs false

set_option maxRecDepth 100000 in
set_option maxHeartbeats 8000000 in
theorem cvTile_2 (L B : Nat) (A : Option Addr) (c : Nat) (es : List Nd) (k : Nat) (hk : k < es.length) (w : World) (hes : NS w L B A es) (hB : B ≤ w.heap.size) :
    Calls Try.prog 73 #[.slice A es.length c, .int .i64 (k : Int), .int .i64 2] w (TileM w (mt es es[k] 2)) := by
  obtain ⟨b0, o0, rfl, ⟨_, hbB⟩, hc⟩ := hes (by omega)
  have hbw : b0 < w.heap.size := by omega
  obtain ⟨c1, c2, c3, c4⟩ := hc k hk
  have hB1 := fun o => Lib.hid ((Below.refl w.heap.size w).alloc (Nat.le_refl _) o)
  clear hc hes hB hbB
  have k1 : (k : Int) < (es.length : Int) := by omega
  cases hh : isOne es[k].op
  · have hm : mt es es[k] 2 = none := by show (if isOne es[k].op = true then _ else none) = none; rw [hh]; rfl
    rw [hm]
    clear hm
    generalize es[k] = nd at *
    obtain ⟨s, a, b, v⟩ := nd
    dsimp only at c1 c2 c3 c4 hh
    go_enter Try.func73, Try.ntmps73
    go_wp2_with (go_at_call 126; refine (exOne_any _ _).mono ?_; rw [hh]; rintro e w' ⟨rfl, rfl⟩)
    refine wp_region_any (by kernel_rfl) ?_
    try (change wpAny _ _ _ _ _ _ _ (World.drew _))
    refine wpAny_take (i := 0) (v := ?_) rfl (by kernel_rfl) (by kernel_rfl) (by kernel_rfl) (fun _ _ _ h => h) (Or.inl ⟨by rfl, ?_⟩) ?_
    rotate_left 1
    · (intro w; go_simp; try with_reducible rfl)
    try simp only [Act.put, List.setIfInBounds_toArray, List.set_cons_zero, List.set_cons_succ, List.getElem_toArray, List.getElem_cons_zero, List.getElem_cons_succ]
    refine wpAny_take (i := 1) (v := ?_) rfl (by kernel_rfl) (by kernel_rfl) (by kernel_rfl) (fun _ _ _ h => h) (Or.inl ⟨by rfl, ?_⟩) ?_
    rotate_left 1
    · (intro w; go_simp; try with_reducible rfl)
    try simp only [Act.put, List.setIfInBounds_toArray, List.set_cons_zero, List.set_cons_succ, List.getElem_toArray, List.getElem_cons_zero, List.getElem_cons_succ]
    refine wpAny_take (i := 2) (v := ?_) rfl (by kernel_rfl) (by kernel_rfl) (by kernel_rfl) (fun _ _ _ h => h) (Or.inl ⟨by rfl, ?_⟩) ?_
    rotate_left 1
    · (intro w; go_simp; try with_reducible rfl)
    try simp only [Act.put, List.setIfInBounds_toArray, List.set_cons_zero, List.set_cons_succ, List.getElem_toArray, List.getElem_cons_zero, List.getElem_cons_succ]
    refine wpAny_take (i := 4) (v := undef) rfl (by kernel_rfl) (by kernel_rfl) (by kernel_rfl) (fun _ _ _ h => h) (Or.inr ⟨by rfl, rfl⟩) ?_
    try simp only [Act.put, List.setIfInBounds_toArray, List.set_cons_zero, List.set_cons_succ, List.getElem_toArray, List.getElem_cons_zero, List.getElem_cons_succ]
    refine wpAny_take (i := 5) (v := undef) rfl (by kernel_rfl) (by kernel_rfl) (by kernel_rfl) (fun _ _ _ h => h) (Or.inr ⟨by rfl, rfl⟩) ?_
    try simp only [Act.put, List.setIfInBounds_toArray, List.set_cons_zero, List.set_cons_succ, List.getElem_toArray, List.getElem_cons_zero, List.getElem_cons_succ]
    refine wpAny_ready (rs := [3]) (by kernel_rfl) (by simp) ?_
    refine AllReady.cons rfl (fun K hK => ?_) (AllReady.nil)
    try simp only [List.setIfInBounds_toArray, List.set_cons_zero, List.set_cons_succ, List.getElem_toArray, List.getElem_cons_zero, List.getElem_cons_succ]
    go_simp
    refine hK _ _ ?_
    clear hK K
    refine wpAny_take (i := 6) (v := undef) rfl (by kernel_rfl) (by kernel_rfl) (by kernel_rfl) (fun _ _ _ h => h) (Or.inr ⟨by rfl, rfl⟩) ?_
    try simp only [Act.put, List.setIfInBounds_toArray, List.set_cons_zero, List.set_cons_succ, List.getElem_toArray, List.getElem_cons_zero, List.getElem_cons_succ]
    refine wpAny_take (i := 7) (v := ?_) rfl (by kernel_rfl) (by kernel_rfl) (by kernel_rfl) (fun _ _ _ h => h) (Or.inl ⟨by rfl, ?_⟩) ?_
    rotate_left 1
    · (intro w; go_simp; try with_reducible rfl)
    try simp only [Act.put, List.setIfInBounds_toArray, List.set_cons_zero, List.set_cons_succ, List.getElem_toArray, List.getElem_cons_zero, List.getElem_cons_succ]
    refine wpAny_take (i := 8) (v := ?_) rfl (by kernel_rfl) (by kernel_rfl) (by kernel_rfl) (fun _ _ _ h => h) (Or.inl ⟨by rfl, ?_⟩) ?_
    rotate_left 1
    · (intro w; go_simp; try with_reducible rfl)
    try simp only [Act.put, List.setIfInBounds_toArray, List.set_cons_zero, List.set_cons_succ, List.getElem_toArray, List.getElem_cons_zero, List.getElem_cons_succ]
    refine wpAny_take (i := 9) (v := undef) rfl (by kernel_rfl) (by kernel_rfl) (by kernel_rfl) (fun _ _ _ h => h) (Or.inr ⟨by rfl, rfl⟩) ?_
    try simp only [Act.put, List.setIfInBounds_toArray, List.set_cons_zero, List.set_cons_succ, List.getElem_toArray, List.getElem_cons_zero, List.getElem_cons_succ]
    refine wpAny_take (i := 10) (v := undef) rfl (by kernel_rfl) (by kernel_rfl) (by kernel_rfl) (fun _ _ _ h => h) (Or.inr ⟨by rfl, rfl⟩) ?_
    try simp only [Act.put, List.setIfInBounds_toArray, List.set_cons_zero, List.set_cons_succ, List.getElem_toArray, List.getElem_cons_zero, List.getElem_cons_succ]
    refine wpAny_take (i := 11) (v := undef) rfl (by kernel_rfl) (by kernel_rfl) (by kernel_rfl) (fun _ _ _ h => h) (Or.inr ⟨by rfl, rfl⟩) ?_
    try simp only [Act.put, List.setIfInBounds_toArray, List.set_cons_zero, List.set_cons_succ, List.getElem_toArray, List.getElem_cons_zero, List.getElem_cons_succ]
    refine wpAny_take (i := 12) (v := undef) rfl (by kernel_rfl) (by kernel_rfl) (by kernel_rfl) (fun _ _ _ h => h) (Or.inr ⟨by rfl, rfl⟩) ?_
    try simp only [Act.put, List.setIfInBounds_toArray, List.set_cons_zero, List.set_cons_succ, List.getElem_toArray, List.getElem_cons_zero, List.getElem_cons_succ]
    refine wpAny_take (i := 13) (v := undef) rfl (by kernel_rfl) (by kernel_rfl) (by kernel_rfl) (fun _ _ _ h => h) (Or.inr ⟨by rfl, rfl⟩) ?_
    try simp only [Act.put, List.setIfInBounds_toArray, List.set_cons_zero, List.set_cons_succ, List.getElem_toArray, List.getElem_cons_zero, List.getElem_cons_succ]
    refine wpAny_take (i := 14) (v := undef) rfl (by kernel_rfl) (by kernel_rfl) (by kernel_rfl) (fun _ _ _ h => h) (Or.inr ⟨by rfl, rfl⟩) ?_
    try simp only [Act.put, List.setIfInBounds_toArray, List.set_cons_zero, List.set_cons_succ, List.getElem_toArray, List.getElem_cons_zero, List.getElem_cons_succ]
    refine wpAny_take (i := 15) (v := undef) rfl (by kernel_rfl) (by kernel_rfl) (by kernel_rfl) (fun _ _ _ h => h) (Or.inr ⟨by rfl, rfl⟩) ?_
    try simp only [Act.put, List.setIfInBounds_toArray, List.set_cons_zero, List.set_cons_succ, List.getElem_toArray, List.getElem_cons_zero, List.getElem_cons_succ]
    refine wpAny_take (i := 16) (v := ?_) rfl (by kernel_rfl) (by kernel_rfl) (by kernel_rfl) (fun _ _ _ h => h) (Or.inl ⟨by rfl, ?_⟩) ?_
    rotate_left 1
    · (intro w; go_simp; try with_reducible rfl)
    try simp only [Act.put, List.setIfInBounds_toArray, List.set_cons_zero, List.set_cons_succ, List.getElem_toArray, List.getElem_cons_zero, List.getElem_cons_succ]
    refine wpAny_take (i := 17) (v := ?_) rfl (by kernel_rfl) (by kernel_rfl) (by kernel_rfl) (fun _ _ _ h => h) (Or.inl ⟨by rfl, ?_⟩) ?_
    rotate_left 1
    · (intro w; go_simp; try with_reducible rfl)
    try simp only [Act.put, List.setIfInBounds_toArray, List.set_cons_zero, List.set_cons_succ, List.getElem_toArray, List.getElem_cons_zero, List.getElem_cons_succ]
    refine wpAny_done (by kernel_rfl) ?_ _
    go_wp2
    refine wp_region_any (by kernel_rfl) ?_
    try (change wpAny _ _ _ _ _ _ _ (World.drew _))
    refine wpAny_take (i := 0) (v := ?_) rfl (by kernel_rfl) (by kernel_rfl) (by kernel_rfl) (fun _ _ _ h => h) (Or.inl ⟨by rfl, ?_⟩) ?_
    rotate_left 1
    · (intro w; go_simp; try with_reducible rfl)
    try simp only [Act.put, List.setIfInBounds_toArray, List.set_cons_zero, List.set_cons_succ, List.getElem_toArray, List.getElem_cons_zero, List.getElem_cons_succ]
    refine wpAny_take (i := 1) (v := ?_) rfl (by kernel_rfl) (by kernel_rfl) (by kernel_rfl) (fun _ _ _ h => h) (Or.inl ⟨by rfl, ?_⟩) ?_
    rotate_left 1
    · (intro w; go_simp; try with_reducible rfl)
    try simp only [Act.put, List.setIfInBounds_toArray, List.set_cons_zero, List.set_cons_succ, List.getElem_toArray, List.getElem_cons_zero, List.getElem_cons_succ]
    refine wpAny_take (i := 2) (v := ?_) rfl (by kernel_rfl) (by kernel_rfl) (by kernel_rfl) (fun _ _ _ h => h) (Or.inl ⟨by rfl, ?_⟩) ?_
    rotate_left 1
    · (intro w; go_simp; try with_reducible rfl)
    try simp only [Act.put, List.setIfInBounds_toArray, List.set_cons_zero, List.set_cons_succ, List.getElem_toArray, List.getElem_cons_zero, List.getElem_cons_succ]
    refine wpAny_take (i := 4) (v := undef) rfl (by kernel_rfl) (by kernel_rfl) (by kernel_rfl) (fun _ _ _ h => h) (Or.inr ⟨by rfl, rfl⟩) ?_
    try simp only [Act.put, List.setIfInBounds_toArray, List.set_cons_zero, List.set_cons_succ, List.getElem_toArray, List.getElem_cons_zero, List.getElem_cons_succ]
    refine wpAny_take (i := 5) (v := undef) rfl (by kernel_rfl) (by kernel_rfl) (by kernel_rfl) (fun _ _ _ h => h) (Or.inr ⟨by rfl, rfl⟩) ?_
    try simp only [Act.put, List.setIfInBounds_toArray, List.set_cons_zero, List.set_cons_succ, List.getElem_toArray, List.getElem_cons_zero, List.getElem_cons_succ]
    refine wpAny_ready (rs := [3]) (by kernel_rfl) (by simp) ?_
    refine AllReady.cons rfl (fun K hK => ?_) (AllReady.nil)
    try simp only [List.setIfInBounds_toArray, List.set_cons_zero, List.set_cons_succ, List.getElem_toArray, List.getElem_cons_zero, List.getElem_cons_succ]
    go_simp
    refine hK _ _ ?_
    clear hK K
    refine wpAny_take (i := 6) (v := undef) rfl (by kernel_rfl) (by kernel_rfl) (by kernel_rfl) (fun _ _ _ h => h) (Or.inr ⟨by rfl, rfl⟩) ?_
    try simp only [Act.put, List.setIfInBounds_toArray, List.set_cons_zero, List.set_cons_succ, List.getElem_toArray, List.getElem_cons_zero, List.getElem_cons_succ]
    refine wpAny_take (i := 7) (v := ?_) rfl (by kernel_rfl) (by kernel_rfl) (by kernel_rfl) (fun _ _ _ h => h) (Or.inl ⟨by rfl, ?_⟩) ?_
    rotate_left 1
    · (intro w; go_simp; try with_reducible rfl)
    try simp only [Act.put, List.setIfInBounds_toArray, List.set_cons_zero, List.set_cons_succ, List.getElem_toArray, List.getElem_cons_zero, List.getElem_cons_succ]
    refine wpAny_take (i := 8) (v := ?_) rfl (by kernel_rfl) (by kernel_rfl) (by kernel_rfl) (fun _ _ _ h => h) (Or.inl ⟨by rfl, ?_⟩) ?_
    rotate_left 1
    · (intro w; go_simp; try with_reducible rfl)
    try simp only [Act.put, List.setIfInBounds_toArray, List.set_cons_zero, List.set_cons_succ, List.getElem_toArray, List.getElem_cons_zero, List.getElem_cons_succ]
    refine wpAny_take (i := 9) (v := undef) rfl (by kernel_rfl) (by kernel_rfl) (by kernel_rfl) (fun _ _ _ h => h) (Or.inr ⟨by rfl, rfl⟩) ?_
    try simp only [Act.put, List.setIfInBounds_toArray, List.set_cons_zero, List.set_cons_succ, List.getElem_toArray, List.getElem_cons_zero, List.getElem_cons_succ]
    refine wpAny_take (i := 10) (v := undef) rfl (by kernel_rfl) (by kernel_rfl) (by kernel_rfl) (fun _ _ _ h => h) (Or.inr ⟨by rfl, rfl⟩) ?_
    try simp only [Act.put, List.setIfInBounds_toArray, List.set_cons_zero, List.set_cons_succ, List.getElem_toArray, List.getElem_cons_zero, List.getElem_cons_succ]
    refine wpAny_take (i := 11) (v := undef) rfl (by kernel_rfl) (by kernel_rfl) (by kernel_rfl) (fun _ _ _ h => h) (Or.inr ⟨by rfl, rfl⟩) ?_
    try simp only [Act.put, List.setIfInBounds_toArray, List.set_cons_zero, List.set_cons_succ, List.getElem_toArray, List.getElem_cons_zero, List.getElem_cons_succ]
    refine wpAny_take (i := 12) (v := undef) rfl (by kernel_rfl) (by kernel_rfl) (by kernel_rfl) (fun _ _ _ h => h) (Or.inr ⟨by rfl, rfl⟩) ?_
    try simp only [Act.put, List.setIfInBounds_toArray, List.set_cons_zero, List.set_cons_succ, List.getElem_toArray, List.getElem_cons_zero, List.getElem_cons_succ]
    refine wpAny_take (i := 13) (v := undef) rfl (by kernel_rfl) (by kernel_rfl) (by kernel_rfl) (fun _ _ _ h => h) (Or.inr ⟨by rfl, rfl⟩) ?_
    try simp only [Act.put, List.setIfInBounds_toArray, List.set_cons_zero, List.set_cons_succ, List.getElem_toArray, List.getElem_cons_zero, List.getElem_cons_succ]
    refine wpAny_take (i := 14) (v := undef) rfl (by kernel_rfl) (by kernel_rfl) (by kernel_rfl) (fun _ _ _ h => h) (Or.inr ⟨by rfl, rfl⟩) ?_
    try simp only [Act.put, List.setIfInBounds_toArray, List.set_cons_zero, List.set_cons_succ, List.getElem_toArray, List.getElem_cons_zero, List.getElem_cons_succ]
    refine wpAny_take (i := 15) (v := undef) rfl (by kernel_rfl) (by kernel_rfl) (by kernel_rfl) (fun _ _ _ h => h) (Or.inr ⟨by rfl, rfl⟩) ?_
    try simp only [Act.put, List.setIfInBounds_toArray, List.set_cons_zero, List.set_cons_succ, List.getElem_toArray, List.getElem_cons_zero, List.getElem_cons_succ]
    refine wpAny_take (i := 16) (v := ?_) rfl (by kernel_rfl) (by kernel_rfl) (by kernel_rfl) (fun _ _ _ h => h) (Or.inl ⟨by rfl, ?_⟩) ?_
    rotate_left 1
    · (intro w; go_simp; try with_reducible rfl)
    try simp only [Act.put, List.setIfInBounds_toArray, List.set_cons_zero, List.set_cons_succ, List.getElem_toArray, List.getElem_cons_zero, List.getElem_cons_succ]
    refine wpAny_take (i := 17) (v := ?_) rfl (by kernel_rfl) (by kernel_rfl) (by kernel_rfl) (fun _ _ _ h => h) (Or.inl ⟨by rfl, ?_⟩) ?_
    rotate_left 1
    · (intro w; go_simp; try with_reducible rfl)
    try simp only [Act.put, List.setIfInBounds_toArray, List.set_cons_zero, List.set_cons_succ, List.getElem_toArray, List.getElem_cons_zero, List.getElem_cons_succ]
    refine wpAny_done (by kernel_rfl) ?_ _
    go_wp2
    go_ret3
    exact TileM.no rfl rfl rfl (by first | exact (hB1 _).out.drew.drew | exact ((hB1 _).out.alloc (by simp) _).drew.drew)
  · have hm : (mt es es[k] 2).isSome = true ∧ ((mt es es[k] 2).map Ti.ps).getD [] = [es[k].a] ∧ ((mt es es[k] 2).map Ti.ins).getD [] = [] := by
      have e : mt es es[k] 2 = some ⟨2, [es[k].a], [], 1⟩ := by show (if isOne es[k].op = true then _ else none) = _; rw [hh]; rfl
      rw [e]; exact ⟨rfl, rfl, rfl⟩
    have H := Lib.hid hm
    clear hm
    generalize mt es es[k] 2 = o at *
    generalize es[k] = nd at *
    obtain ⟨s, a, b, v⟩ := nd
    dsimp only at c1 c2 c3 c4 hh H
    go_enter Try.func73, Try.ntmps73
    go_wp2_with (go_at_call 126; refine (exOne_any _ _).mono ?_; rw [hh]; rintro e w' ⟨rfl, rfl⟩)
    go_ret3
    exact TileM.yes H.out.2.1 H.out.2.2 H.out.1 rfl rfl (ownLit [a] rfl (by first | (simp; done) | (simp; omega)) (by simp) (by first | (simp; done) | (simp; omega) | omega) (by first | (simp; done) | (simp; omega) | omega)) (OW.nil _ _ _) (by first | exact ((hB1 _).out.alloc (by simp) _) | exact (((hB1 _).out.alloc (by simp) _).alloc (by simp; omega) _))
end Go.Proofs.Ytgcbfiamhpfkhaa

/- cvTile at the tile 3. -/
namespace Go.Proofs.Ytgcbfiamhpfkhaa
open Go.RowKit
set_option linter.unusedVariables false
set_option linter.unusedSimpArgs false

set_option maxRecDepth 100000 in
set_option maxHeartbeats 8000000 in
theorem cvTile_3 (L B : Nat) (A : Option Addr) (c : Nat) (es : List Nd) (k : Nat) (hk : k < es.length) (w : World) (hes : NS w L B A es) (hB : B ≤ w.heap.size) :
    Calls Try.prog 73 #[.slice A es.length c, .int .i64 (k : Int), .int .i64 3] w (TileM w (mt es es[k] 3)) := by
  obtain ⟨b0, o0, rfl, ⟨_, hbB⟩, hc⟩ := hes (by omega)
  have hbw : b0 < w.heap.size := by omega
  obtain ⟨c1, c2, c3, c4⟩ := hc k hk
  have hB1 := fun o => Lib.hid ((Below.refl w.heap.size w).alloc (Nat.le_refl _) o)
  clear hc hes hB hbB
  have k1 : (k : Int) < (es.length : Int) := by omega
  cases hh : isTwo es[k].op
  · have hm : mt es es[k] 3 = none := by show (if isTwo es[k].op = true then _ else none) = none; rw [hh]; rfl
    rw [hm]
    clear hm
    generalize es[k] = nd at *
    obtain ⟨s, a, b, v⟩ := nd
    dsimp only at c1 c2 c3 c4 hh
    go_enter Try.func73, Try.ntmps73
    go_wp2_with (go_at_call 127; refine (exTwo_any _ _).mono ?_; rw [hh]; rintro e w' ⟨rfl, rfl⟩)
    refine wp_region_any (by kernel_rfl) ?_
    try (change wpAny _ _ _ _ _ _ _ (World.drew _))
    refine wpAny_take (i := 0) (v := ?_) rfl (by kernel_rfl) (by kernel_rfl) (by kernel_rfl) (fun _ _ _ h => h) (Or.inl ⟨by rfl, ?_⟩) ?_
    rotate_left 1
    · (intro w; go_simp; try with_reducible rfl)
    try simp only [Act.put, List.setIfInBounds_toArray, List.set_cons_zero, List.set_cons_succ, List.getElem_toArray, List.getElem_cons_zero, List.getElem_cons_succ]
    refine wpAny_take (i := 1) (v := ?_) rfl (by kernel_rfl) (by kernel_rfl) (by kernel_rfl) (fun _ _ _ h => h) (Or.inl ⟨by rfl, ?_⟩) ?_
    rotate_left 1
    · (intro w; go_simp; try with_reducible rfl)
    try simp only [Act.put, List.setIfInBounds_toArray, List.set_cons_zero, List.set_cons_succ, List.getElem_toArray, List.getElem_cons_zero, List.getElem_cons_succ]
    refine wpAny_take (i := 2) (v := ?_) rfl (by kernel_rfl) (by kernel_rfl) (by kernel_rfl) (fun _ _ _ h => h) (Or.inl ⟨by rfl, ?_⟩) ?_
    rotate_left 1
    · (intro w; go_simp; try with_reducible rfl)
    try simp only [Act.put, List.setIfInBounds_toArray, List.set_cons_zero, List.set_cons_succ, List.getElem_toArray, List.getElem_cons_zero, List.getElem_cons_succ]
    refine wpAny_take (i := 4) (v := undef) rfl (by kernel_rfl) (by kernel_rfl) (by kernel_rfl) (fun _ _ _ h => h) (Or.inr ⟨by rfl, rfl⟩) ?_
    try simp only [Act.put, List.setIfInBounds_toArray, List.set_cons_zero, List.set_cons_succ, List.getElem_toArray, List.getElem_cons_zero, List.getElem_cons_succ]
    refine wpAny_take (i := 5) (v := undef) rfl (by kernel_rfl) (by kernel_rfl) (by kernel_rfl) (fun _ _ _ h => h) (Or.inr ⟨by rfl, rfl⟩) ?_
    try simp only [Act.put, List.setIfInBounds_toArray, List.set_cons_zero, List.set_cons_succ, List.getElem_toArray, List.getElem_cons_zero, List.getElem_cons_succ]
    refine wpAny_ready (rs := [3]) (by kernel_rfl) (by simp) ?_
    refine AllReady.cons rfl (fun K hK => ?_) (AllReady.nil)
    try simp only [List.setIfInBounds_toArray, List.set_cons_zero, List.set_cons_succ, List.getElem_toArray, List.getElem_cons_zero, List.getElem_cons_succ]
    go_simp
    refine hK _ _ ?_
    clear hK K
    refine wpAny_take (i := 6) (v := undef) rfl (by kernel_rfl) (by kernel_rfl) (by kernel_rfl) (fun _ _ _ h => h) (Or.inr ⟨by rfl, rfl⟩) ?_
    try simp only [Act.put, List.setIfInBounds_toArray, List.set_cons_zero, List.set_cons_succ, List.getElem_toArray, List.getElem_cons_zero, List.getElem_cons_succ]
    refine wpAny_take (i := 7) (v := ?_) rfl (by kernel_rfl) (by kernel_rfl) (by kernel_rfl) (fun _ _ _ h => h) (Or.inl ⟨by rfl, ?_⟩) ?_
    rotate_left 1
    · (intro w; go_simp; try with_reducible rfl)
    try simp only [Act.put, List.setIfInBounds_toArray, List.set_cons_zero, List.set_cons_succ, List.getElem_toArray, List.getElem_cons_zero, List.getElem_cons_succ]
    refine wpAny_take (i := 8) (v := ?_) rfl (by kernel_rfl) (by kernel_rfl) (by kernel_rfl) (fun _ _ _ h => h) (Or.inl ⟨by rfl, ?_⟩) ?_
    rotate_left 1
    · (intro w; go_simp; try with_reducible rfl)
    try simp only [Act.put, List.setIfInBounds_toArray, List.set_cons_zero, List.set_cons_succ, List.getElem_toArray, List.getElem_cons_zero, List.getElem_cons_succ]
    refine wpAny_take (i := 9) (v := undef) rfl (by kernel_rfl) (by kernel_rfl) (by kernel_rfl) (fun _ _ _ h => h) (Or.inr ⟨by rfl, rfl⟩) ?_
    try simp only [Act.put, List.setIfInBounds_toArray, List.set_cons_zero, List.set_cons_succ, List.getElem_toArray, List.getElem_cons_zero, List.getElem_cons_succ]
    refine wpAny_take (i := 10) (v := undef) rfl (by kernel_rfl) (by kernel_rfl) (by kernel_rfl) (fun _ _ _ h => h) (Or.inr ⟨by rfl, rfl⟩) ?_
    try simp only [Act.put, List.setIfInBounds_toArray, List.set_cons_zero, List.set_cons_succ, List.getElem_toArray, List.getElem_cons_zero, List.getElem_cons_succ]
    refine wpAny_take (i := 11) (v := undef) rfl (by kernel_rfl) (by kernel_rfl) (by kernel_rfl) (fun _ _ _ h => h) (Or.inr ⟨by rfl, rfl⟩) ?_
    try simp only [Act.put, List.setIfInBounds_toArray, List.set_cons_zero, List.set_cons_succ, List.getElem_toArray, List.getElem_cons_zero, List.getElem_cons_succ]
    refine wpAny_take (i := 12) (v := undef) rfl (by kernel_rfl) (by kernel_rfl) (by kernel_rfl) (fun _ _ _ h => h) (Or.inr ⟨by rfl, rfl⟩) ?_
    try simp only [Act.put, List.setIfInBounds_toArray, List.set_cons_zero, List.set_cons_succ, List.getElem_toArray, List.getElem_cons_zero, List.getElem_cons_succ]
    refine wpAny_take (i := 13) (v := undef) rfl (by kernel_rfl) (by kernel_rfl) (by kernel_rfl) (fun _ _ _ h => h) (Or.inr ⟨by rfl, rfl⟩) ?_
    try simp only [Act.put, List.setIfInBounds_toArray, List.set_cons_zero, List.set_cons_succ, List.getElem_toArray, List.getElem_cons_zero, List.getElem_cons_succ]
    refine wpAny_take (i := 14) (v := undef) rfl (by kernel_rfl) (by kernel_rfl) (by kernel_rfl) (fun _ _ _ h => h) (Or.inr ⟨by rfl, rfl⟩) ?_
    try simp only [Act.put, List.setIfInBounds_toArray, List.set_cons_zero, List.set_cons_succ, List.getElem_toArray, List.getElem_cons_zero, List.getElem_cons_succ]
    refine wpAny_take (i := 15) (v := undef) rfl (by kernel_rfl) (by kernel_rfl) (by kernel_rfl) (fun _ _ _ h => h) (Or.inr ⟨by rfl, rfl⟩) ?_
    try simp only [Act.put, List.setIfInBounds_toArray, List.set_cons_zero, List.set_cons_succ, List.getElem_toArray, List.getElem_cons_zero, List.getElem_cons_succ]
    refine wpAny_take (i := 16) (v := ?_) rfl (by kernel_rfl) (by kernel_rfl) (by kernel_rfl) (fun _ _ _ h => h) (Or.inl ⟨by rfl, ?_⟩) ?_
    rotate_left 1
    · (intro w; go_simp; try with_reducible rfl)
    try simp only [Act.put, List.setIfInBounds_toArray, List.set_cons_zero, List.set_cons_succ, List.getElem_toArray, List.getElem_cons_zero, List.getElem_cons_succ]
    refine wpAny_take (i := 17) (v := ?_) rfl (by kernel_rfl) (by kernel_rfl) (by kernel_rfl) (fun _ _ _ h => h) (Or.inl ⟨by rfl, ?_⟩) ?_
    rotate_left 1
    · (intro w; go_simp; try with_reducible rfl)
    try simp only [Act.put, List.setIfInBounds_toArray, List.set_cons_zero, List.set_cons_succ, List.getElem_toArray, List.getElem_cons_zero, List.getElem_cons_succ]
    refine wpAny_done (by kernel_rfl) ?_ _
    go_wp2
    refine wp_region_any (by kernel_rfl) ?_
    try (change wpAny _ _ _ _ _ _ _ (World.drew _))
    refine wpAny_take (i := 0) (v := ?_) rfl (by kernel_rfl) (by kernel_rfl) (by kernel_rfl) (fun _ _ _ h => h) (Or.inl ⟨by rfl, ?_⟩) ?_
    rotate_left 1
    · (intro w; go_simp; try with_reducible rfl)
    try simp only [Act.put, List.setIfInBounds_toArray, List.set_cons_zero, List.set_cons_succ, List.getElem_toArray, List.getElem_cons_zero, List.getElem_cons_succ]
    refine wpAny_take (i := 1) (v := ?_) rfl (by kernel_rfl) (by kernel_rfl) (by kernel_rfl) (fun _ _ _ h => h) (Or.inl ⟨by rfl, ?_⟩) ?_
    rotate_left 1
    · (intro w; go_simp; try with_reducible rfl)
    try simp only [Act.put, List.setIfInBounds_toArray, List.set_cons_zero, List.set_cons_succ, List.getElem_toArray, List.getElem_cons_zero, List.getElem_cons_succ]
    refine wpAny_take (i := 2) (v := ?_) rfl (by kernel_rfl) (by kernel_rfl) (by kernel_rfl) (fun _ _ _ h => h) (Or.inl ⟨by rfl, ?_⟩) ?_
    rotate_left 1
    · (intro w; go_simp; try with_reducible rfl)
    try simp only [Act.put, List.setIfInBounds_toArray, List.set_cons_zero, List.set_cons_succ, List.getElem_toArray, List.getElem_cons_zero, List.getElem_cons_succ]
    refine wpAny_take (i := 4) (v := undef) rfl (by kernel_rfl) (by kernel_rfl) (by kernel_rfl) (fun _ _ _ h => h) (Or.inr ⟨by rfl, rfl⟩) ?_
    try simp only [Act.put, List.setIfInBounds_toArray, List.set_cons_zero, List.set_cons_succ, List.getElem_toArray, List.getElem_cons_zero, List.getElem_cons_succ]
    refine wpAny_take (i := 5) (v := undef) rfl (by kernel_rfl) (by kernel_rfl) (by kernel_rfl) (fun _ _ _ h => h) (Or.inr ⟨by rfl, rfl⟩) ?_
    try simp only [Act.put, List.setIfInBounds_toArray, List.set_cons_zero, List.set_cons_succ, List.getElem_toArray, List.getElem_cons_zero, List.getElem_cons_succ]
    refine wpAny_ready (rs := [3]) (by kernel_rfl) (by simp) ?_
    refine AllReady.cons rfl (fun K hK => ?_) (AllReady.nil)
    try simp only [List.setIfInBounds_toArray, List.set_cons_zero, List.set_cons_succ, List.getElem_toArray, List.getElem_cons_zero, List.getElem_cons_succ]
    go_simp
    refine hK _ _ ?_
    clear hK K
    refine wpAny_take (i := 6) (v := undef) rfl (by kernel_rfl) (by kernel_rfl) (by kernel_rfl) (fun _ _ _ h => h) (Or.inr ⟨by rfl, rfl⟩) ?_
    try simp only [Act.put, List.setIfInBounds_toArray, List.set_cons_zero, List.set_cons_succ, List.getElem_toArray, List.getElem_cons_zero, List.getElem_cons_succ]
    refine wpAny_take (i := 7) (v := ?_) rfl (by kernel_rfl) (by kernel_rfl) (by kernel_rfl) (fun _ _ _ h => h) (Or.inl ⟨by rfl, ?_⟩) ?_
    rotate_left 1
    · (intro w; go_simp; try with_reducible rfl)
    try simp only [Act.put, List.setIfInBounds_toArray, List.set_cons_zero, List.set_cons_succ, List.getElem_toArray, List.getElem_cons_zero, List.getElem_cons_succ]
    refine wpAny_take (i := 8) (v := ?_) rfl (by kernel_rfl) (by kernel_rfl) (by kernel_rfl) (fun _ _ _ h => h) (Or.inl ⟨by rfl, ?_⟩) ?_
    rotate_left 1
    · (intro w; go_simp; try with_reducible rfl)
    try simp only [Act.put, List.setIfInBounds_toArray, List.set_cons_zero, List.set_cons_succ, List.getElem_toArray, List.getElem_cons_zero, List.getElem_cons_succ]
    refine wpAny_take (i := 9) (v := undef) rfl (by kernel_rfl) (by kernel_rfl) (by kernel_rfl) (fun _ _ _ h => h) (Or.inr ⟨by rfl, rfl⟩) ?_
    try simp only [Act.put, List.setIfInBounds_toArray, List.set_cons_zero, List.set_cons_succ, List.getElem_toArray, List.getElem_cons_zero, List.getElem_cons_succ]
    refine wpAny_take (i := 10) (v := undef) rfl (by kernel_rfl) (by kernel_rfl) (by kernel_rfl) (fun _ _ _ h => h) (Or.inr ⟨by rfl, rfl⟩) ?_
    try simp only [Act.put, List.setIfInBounds_toArray, List.set_cons_zero, List.set_cons_succ, List.getElem_toArray, List.getElem_cons_zero, List.getElem_cons_succ]
    refine wpAny_take (i := 11) (v := undef) rfl (by kernel_rfl) (by kernel_rfl) (by kernel_rfl) (fun _ _ _ h => h) (Or.inr ⟨by rfl, rfl⟩) ?_
    try simp only [Act.put, List.setIfInBounds_toArray, List.set_cons_zero, List.set_cons_succ, List.getElem_toArray, List.getElem_cons_zero, List.getElem_cons_succ]
    refine wpAny_take (i := 12) (v := undef) rfl (by kernel_rfl) (by kernel_rfl) (by kernel_rfl) (fun _ _ _ h => h) (Or.inr ⟨by rfl, rfl⟩) ?_
    try simp only [Act.put, List.setIfInBounds_toArray, List.set_cons_zero, List.set_cons_succ, List.getElem_toArray, List.getElem_cons_zero, List.getElem_cons_succ]
    refine wpAny_take (i := 13) (v := undef) rfl (by kernel_rfl) (by kernel_rfl) (by kernel_rfl) (fun _ _ _ h => h) (Or.inr ⟨by rfl, rfl⟩) ?_
    try simp only [Act.put, List.setIfInBounds_toArray, List.set_cons_zero, List.set_cons_succ, List.getElem_toArray, List.getElem_cons_zero, List.getElem_cons_succ]
    refine wpAny_take (i := 14) (v := undef) rfl (by kernel_rfl) (by kernel_rfl) (by kernel_rfl) (fun _ _ _ h => h) (Or.inr ⟨by rfl, rfl⟩) ?_
    try simp only [Act.put, List.setIfInBounds_toArray, List.set_cons_zero, List.set_cons_succ, List.getElem_toArray, List.getElem_cons_zero, List.getElem_cons_succ]
    refine wpAny_take (i := 15) (v := undef) rfl (by kernel_rfl) (by kernel_rfl) (by kernel_rfl) (fun _ _ _ h => h) (Or.inr ⟨by rfl, rfl⟩) ?_
    try simp only [Act.put, List.setIfInBounds_toArray, List.set_cons_zero, List.set_cons_succ, List.getElem_toArray, List.getElem_cons_zero, List.getElem_cons_succ]
    refine wpAny_take (i := 16) (v := ?_) rfl (by kernel_rfl) (by kernel_rfl) (by kernel_rfl) (fun _ _ _ h => h) (Or.inl ⟨by rfl, ?_⟩) ?_
    rotate_left 1
    · (intro w; go_simp; try with_reducible rfl)
    try simp only [Act.put, List.setIfInBounds_toArray, List.set_cons_zero, List.set_cons_succ, List.getElem_toArray, List.getElem_cons_zero, List.getElem_cons_succ]
    refine wpAny_take (i := 17) (v := ?_) rfl (by kernel_rfl) (by kernel_rfl) (by kernel_rfl) (fun _ _ _ h => h) (Or.inl ⟨by rfl, ?_⟩) ?_
    rotate_left 1
    · (intro w; go_simp; try with_reducible rfl)
    try simp only [Act.put, List.setIfInBounds_toArray, List.set_cons_zero, List.set_cons_succ, List.getElem_toArray, List.getElem_cons_zero, List.getElem_cons_succ]
    refine wpAny_done (by kernel_rfl) ?_ _
    go_wp2
    go_ret3
    exact TileM.no rfl rfl rfl (by first | exact (hB1 _).out.drew.drew | exact ((hB1 _).out.alloc (by simp) _).drew.drew)
  · have hm : (mt es es[k] 3).isSome = true ∧ ((mt es es[k] 3).map Ti.ps).getD [] = [es[k].a, es[k].b] ∧ ((mt es es[k] 3).map Ti.ins).getD [] = [] := by
      have e : mt es es[k] 3 = some ⟨3, [es[k].a, es[k].b], [], cst es[k].op⟩ := by show (if isTwo es[k].op = true then _ else none) = _; rw [hh]; rfl
      rw [e]; exact ⟨rfl, rfl, rfl⟩
    have H := Lib.hid hm
    clear hm
    generalize mt es es[k] 3 = o at *
    generalize es[k] = nd at *
    obtain ⟨s, a, b, v⟩ := nd
    dsimp only at c1 c2 c3 c4 hh H
    go_enter Try.func73, Try.ntmps73
    go_wp2_with (go_at_call 127; refine (exTwo_any _ _).mono ?_; rw [hh]; rintro e w' ⟨rfl, rfl⟩)
    go_ret3
    exact TileM.yes H.out.2.1 H.out.2.2 H.out.1 rfl rfl (ownLit [a, b] rfl (by first | (simp; done) | (simp; omega)) (by simp) (by first | (simp; done) | (simp; omega) | omega) (by first | (simp; done) | (simp; omega) | omega)) (OW.nil _ _ _) (by first | exact ((hB1 _).out.alloc (by simp) _) | exact (((hB1 _).out.alloc (by simp) _).alloc (by simp; omega) _))
end Go.Proofs.Ytgcbfiamhpfkhaa

/- cvTile at the tile 4, its op being one of four. -/
namespace Go.Proofs.Ytgcbfiamhpfkhaa
open Go.RowKit
set_option linter.unusedVariables false
set_option linter.unusedSimpArgs false

theorem kon_words {n : Nd} {i : Int} (h : isNode n i = true) : kon (wordsTo 64) n = isConst n.op := by
  unfold kon
  cases hc : isConst n.op
  · rfl
  · rw [Bool.true_and]
    rcases node_kinds h with ⟨_, h0, h1⟩ | ⟨h1, _⟩ | ⟨h1, _⟩ | ⟨h1, _⟩
    · unfold hasI
      rw [List.any_eq_true]
      exact ⟨n.v, by unfold wordsTo; rw [List.mem_map]; exact ⟨n.v.toNat, List.mem_range.2 (by omega), by omega⟩, by simp⟩
    · exfalso; simp [isConst, h1] at hc
    · exfalso; simp [isConst] at hc; simp [hc] at h1
    · exfalso; simp [isConst] at hc; simp [hc] at h1
set_option maxRecDepth 100000 in
set_option maxHeartbeats 8000000 in
theorem cvTile_4yes (L B : Nat) (A : Option Addr) (c : Nat) (es : List Nd) (k : Nat) (hk : k < es.length) (w : World) (hes : NS w L B A es) (hB : B ≤ w.heap.size) (hok : okFrom es 0 = true) (hh : hasS [oAdd, oSub, oAnd, oXor] es[k].op = true) :
    Calls Try.prog 73 #[.slice A es.length c, .int .i64 (k : Int), .int .i64 4] w (TileM w (mt es es[k] 4)) := by
  obtain ⟨b0, o0, rfl, ⟨_, hbB⟩, hc⟩ := hes (by omega)
  have hbw : b0 < w.heap.size := by omega
  obtain ⟨c1, c2, c3, c4⟩ := hc k hk
  have hB1 := fun o => Lib.hid ((Below.refl w.heap.size w).alloc (Nat.le_refl _) o)
  have hcc := Lib.hid hc
  clear hc hes hB hbB
  have k1 : (k : Int) < (es.length : Int) := by omega
  have hnb : noBtw ⟨4, [oAdd, oSub, oAnd, oXor], oNo, false, []⟩ = true := by decide +kernel
  have hF : mt es es[k] 4 = foO es es[k] ⟨4, [oAdd, oSub, oAnd, oXor], oNo, false, []⟩ := mt_fo es es[k] 0 _ rfl
  have h2 := two_bd (ok_get hok hk) (two_of_has (f := ⟨4, [oAdd, oSub, oAnd, oXor], oNo, false, []⟩) (by simp [fos]) hh)
  obtain ⟨jx, hjx⟩ : ∃ jx : Nat, es[k].b = (jx : Int) := ⟨es[k].b.toNat, by omega⟩
  have hjk : jx < es.length := by omega
  obtain ⟨d1, d2, d3, d4⟩ := hcc.out jx hjk
  have hO : foOk es ⟨4, [oAdd, oSub, oAnd, oXor], oNo, false, []⟩ es[k] = kon (wordsTo 64) es[jx] := by
    rw [kon_words (ok_get hok hjk)]
    unfold foOk
    rw [if_pos hnb]
    show (hasS [oAdd, oSub, oAnd, oXor] es[k].op && (isConst (nodeAt es es[k].b).op && true)) = _
    rw [hh, hjx, nodeAt_nat hjk, Bool.true_and, Bool.and_true]
  have hT : foTi es ⟨4, [oAdd, oSub, oAnd, oXor], oNo, false, []⟩ es[k] = ⟨4, [es[k].a], [es[k].b], 1⟩ := by unfold foTi; rw [if_pos hnb]; rfl
  rw [hF]
  unfold foO
  rw [hO, hT, hjx]
  clear hF hO hT hnb h2
  generalize es[jx] = md at *
  obtain ⟨ms, ma, mb, mv⟩ := md
  dsimp only at d1 d2 d3 d4
  generalize es[k] = nd at *
  obtain ⟨s, a, b, v⟩ := nd
  dsimp only at c1 c2 c3 c4 hh hjx ⊢
  subst hjx
  have hjl : (jx : Int) < (es.length : Int) := by omega
  have hH := Lib.hid (fun W (hg : KB encS 9 W (w.heap.size + 1) [oAdd, oSub, oAnd, oXor]) => hasS_at [oAdd, oSub, oAnd, oXor] (by decide) W (w.heap.size + 1) 9 hg 4 4 rfl s)
  rw [hh] at hH
  have hKB := Lib.hid (kbS (w := w) (.cells #[.string s, .int .i64 a, .int .i64 (jx : Int), .int .i64 v] 65) [oAdd, oSub, oAnd, oXor] #[.string ⟨#[97,100,100]⟩, .string ⟨#[115,117,98]⟩, .string ⟨#[97,110,100]⟩, .string ⟨#[120,111,114]⟩] rfl 9)
  have hC := Lib.hid (fun W WA wc (hI : IS W 0 W.heap.size WA (wordsTo 64)) => cvConst_any 0 W.heap.size WA (wordsTo 64).length wc (wordsTo 64) ms ma mb mv W rfl hI (Nat.le_refl _) (by rw [wordsTo_len]; decide))
  have hWl := Lib.hid (wordsTo_len 64)
  have hCW := Lib.hid cvWords_any
  generalize wordsTo 64 = wds at *
  cases hk2 : kon wds ⟨ms, ma, mb, mv⟩
  · rw [if_neg (by simp)]
    rw [hk2] at hC
    clear hk2
    obtain ⟨W1, hW1⟩ : ∃ W1, W1 = w.alloc (.cells #[.string s, .int .i64 a, .int .i64 (jx : Int), .int .i64 v] 65) := ⟨_, rfl⟩
    have hn1 : CB 65 W1 w.heap.size [.string s, .int .i64 a, .int .i64 (jx : Int), .int .i64 v] := by rw [hW1]; exact heap_alloc_new w _
    rw [← hW1] at hKB
    have z1 : W1.heap.size = w.heap.size + 1 := by rw [hW1]; exact World.size_alloc _ _
    have hBe1 := Lib.hid (show Below w.heap.size w W1 by rw [hW1]; exact (hB1 _).out)
    have e1 := (hBe1.out.cell (p := ⟨b0, o0 + jx * 4, none⟩) hbw).trans d1
    have e2 := (hBe1.out.cell (p := ⟨b0, o0 + jx * 4 + 1, none⟩) hbw).trans d2
    have e3 := (hBe1.out.cell (p := ⟨b0, o0 + jx * 4 + 2, none⟩) hbw).trans d3
    have e4 := (hBe1.out.cell (p := ⟨b0, o0 + jx * 4 + 3, none⟩) hbw).trans d4
    have hAl := (Below.refl W1.heap.size W1).alloc (Nat.le_refl _) (.cells #[.string ⟨#[97,100,100]⟩, .string ⟨#[115,117,98]⟩, .string ⟨#[97,110,100]⟩, .string ⟨#[120,111,114]⟩] 9)
    have zz0 : w.heap.size < W1.heap.size := by omega
    have zzb : b0 < W1.heap.size := by omega
    have zS := World.size_alloc W1 (.cells #[.string ⟨#[97,100,100]⟩, .string ⟨#[115,117,98]⟩, .string ⟨#[97,110,100]⟩, .string ⟨#[120,111,114]⟩] 9)
    have zA0 : w.heap.size < (W1.alloc (.cells #[.string ⟨#[97,100,100]⟩, .string ⟨#[115,117,98]⟩, .string ⟨#[97,110,100]⟩, .string ⟨#[120,111,114]⟩] 9)).heap.size := by omega
    have zAb : b0 < (W1.alloc (.cells #[.string ⟨#[97,100,100]⟩, .string ⟨#[115,117,98]⟩, .string ⟨#[97,110,100]⟩, .string ⟨#[120,111,114]⟩] 9)).heap.size := by omega
    have hn2 := CB.below hn1 hAl zz0
    have n0 := hn1.cell 0; have n1 := hn1.cell 1; have n2 := hn1.cell 2; have n3 := hn1.cell 3
    have a0 := hn2.cell 0; have a1 := hn2.cell 1; have a2 := hn2.cell 2; have a3 := hn2.cell 3
    simp only [List.getElem?_cons_zero, List.getElem?_cons_succ] at n0 n1 n2 n3 a0 a1 a2 a3
    have f1 := (hAl.cell (p := ⟨b0, o0 + jx * 4, none⟩) zzb).trans e1
    have f2 := (hAl.cell (p := ⟨b0, o0 + jx * 4 + 1, none⟩) zzb).trans e2
    have f3 := (hAl.cell (p := ⟨b0, o0 + jx * 4 + 2, none⟩) zzb).trans e3
    have f4 := (hAl.cell (p := ⟨b0, o0 + jx * 4 + 3, none⟩) zzb).trans e4
    clear hn1 hn2
    go_enter Try.func73, Try.ntmps73
    go_wp2
    rw [← hW1]
    clear hW1 d1 d2 d3 d4 c1 c2 c3 c4
    go_region_held3 (fun w' => w'.cell? ⟨w.heap.size, 0, none⟩ = some (.string s) ∧ w'.cell? ⟨w.heap.size, 1, none⟩ = some (.int .i64 a) ∧ w'.cell? ⟨w.heap.size, 2, none⟩ = some (.int .i64 (jx : Int)) ∧ w'.cell? ⟨w.heap.size, 3, none⟩ = some (.int .i64 v) ∧
        w'.cell? ⟨b0, o0 + jx * 4, none⟩ = some (.string ms) ∧ w'.cell? ⟨b0, o0 + jx * 4 + 1, none⟩ = some (.int .i64 ma) ∧ w'.cell? ⟨b0, o0 + jx * 4 + 2, none⟩ = some (.int .i64 mb) ∧ w'.cell? ⟨b0, o0 + jx * 4 + 3, none⟩ = some (.int .i64 mv))
      (first | exact ⟨n0, n1, n2, n3, e1, e2, e3, e4⟩ | exact ⟨a0, a1, a2, a3, f1, f2, f3, f4⟩ | exact ⟨p0, p1, p2, p3, p4, p5, p6, p7⟩ | exact ⟨m0, m1, m2, m3, m4, m5, m6, m7⟩ | go_keep)
      (first
        | (go_at_call 128; go_loud (with_reducible refine (hH.out _ ?_).mono ?_); go_loud (exact hKB.out); go_loud (rintro e w' ⟨rfl, rfl⟩))
        | (go_at_call 130; go_loud (with_reducible refine (hCW.out _).mono ?_); go_loud (rintro e w4 ⟨WA, wc, rfl, hWo, hb4⟩; have hWi := hWo.rs.more (L' := 0) (B' := w4.heap.size) (Nat.zero_le _) (Nat.le_refl _); have m0 := (hb4.cell zA0).trans a0; have m1 := (hb4.cell zA0).trans a1; have m2 := (hb4.cell zA0).trans a2; have m3 := (hb4.cell zA0).trans a3; have m4 := (hb4.cell zAb).trans f1; have m5 := (hb4.cell zAb).trans f2; have m6 := (hb4.cell zAb).trans f3; have m7 := (hb4.cell zAb).trans f4; have z40 := Nat.lt_of_lt_of_le zA0 hb4.size; have z4b := Nat.lt_of_lt_of_le zAb hb4.size))
        | (go_at_call 129; go_loud (with_reducible refine (hC.out _ _ _ ?_).mono ?_); go_loud (exact hWi); go_loud (rintro e w5 ⟨rfl, hb5⟩; have p0 := (hb5.cell z40).trans m0; have p1 := (hb5.cell z40).trans m1; have p2 := (hb5.cell z40).trans m2; have p3 := (hb5.cell z40).trans m3; have p4 := (hb5.cell z4b).trans m4; have p5 := (hb5.cell z4b).trans m5; have p6 := (hb5.cell z4b).trans m6; have p7 := (hb5.cell z4b).trans m7)))
    have hBw3 : Below w.heap.size w (W1.alloc (.cells #[.string ⟨#[97,100,100]⟩, .string ⟨#[115,117,98]⟩, .string ⟨#[97,110,100]⟩, .string ⟨#[120,111,114]⟩] 9)) := hBe1.out.trans (hAl.mono (by omega))
    have hBw4 : Below w.heap.size w w4 := hBw3.drew.trans (hb4.mono (by show w.heap.size ≤ (W1.alloc (.cells #[.string ⟨#[97,100,100]⟩, .string ⟨#[115,117,98]⟩, .string ⟨#[97,110,100]⟩, .string ⟨#[120,111,114]⟩] 9)).heap.size; omega))
    have hBw5 := Lib.hid (hBw4.trans (hb5.mono (by have := z40; omega)))
    clear hb4 hb5 hWo hWi hBw3 hBw4 m0 m1 m2 m3 m4 m5 m6 m7 p0 p1 p2 p3 p4 p5 p6 p7 a0 a1 a2 a3 f1 f2 f3 f4 n0 n1 n2 n3 e1 e2 e3 e4 hAl
    go_wp2
    refine wp_region_any (by kernel_rfl) ?_
    try (change wpAny _ _ _ _ _ _ _ (World.drew _))
    refine wpAny_take (i := 0) (v := ?_) rfl (by kernel_rfl) (by kernel_rfl) (by kernel_rfl) (fun _ _ _ h => h) (Or.inl ⟨by rfl, ?_⟩) ?_
    rotate_left 1
    · (intro w; go_simp; try with_reducible rfl)
    try simp only [Act.put, List.setIfInBounds_toArray, List.set_cons_zero, List.set_cons_succ, List.getElem_toArray, List.getElem_cons_zero, List.getElem_cons_succ]
    refine wpAny_take (i := 1) (v := ?_) rfl (by kernel_rfl) (by kernel_rfl) (by kernel_rfl) (fun _ _ _ h => h) (Or.inl ⟨by rfl, ?_⟩) ?_
    rotate_left 1
    · (intro w; go_simp; try with_reducible rfl)
    try simp only [Act.put, List.setIfInBounds_toArray, List.set_cons_zero, List.set_cons_succ, List.getElem_toArray, List.getElem_cons_zero, List.getElem_cons_succ]
    refine wpAny_take (i := 2) (v := ?_) rfl (by kernel_rfl) (by kernel_rfl) (by kernel_rfl) (fun _ _ _ h => h) (Or.inl ⟨by rfl, ?_⟩) ?_
    rotate_left 1
    · (intro w; go_simp; try with_reducible rfl)
    try simp only [Act.put, List.setIfInBounds_toArray, List.set_cons_zero, List.set_cons_succ, List.getElem_toArray, List.getElem_cons_zero, List.getElem_cons_succ]
    refine wpAny_take (i := 4) (v := undef) rfl (by kernel_rfl) (by kernel_rfl) (by kernel_rfl) (fun _ _ _ h => h) (Or.inr ⟨by rfl, rfl⟩) ?_
    try simp only [Act.put, List.setIfInBounds_toArray, List.set_cons_zero, List.set_cons_succ, List.getElem_toArray, List.getElem_cons_zero, List.getElem_cons_succ]
    refine wpAny_take (i := 5) (v := undef) rfl (by kernel_rfl) (by kernel_rfl) (by kernel_rfl) (fun _ _ _ h => h) (Or.inr ⟨by rfl, rfl⟩) ?_
    try simp only [Act.put, List.setIfInBounds_toArray, List.set_cons_zero, List.set_cons_succ, List.getElem_toArray, List.getElem_cons_zero, List.getElem_cons_succ]
    refine wpAny_ready (rs := [3]) (by kernel_rfl) (by simp) ?_
    refine AllReady.cons rfl (fun K hK => ?_) (AllReady.nil)
    try simp only [List.setIfInBounds_toArray, List.set_cons_zero, List.set_cons_succ, List.getElem_toArray, List.getElem_cons_zero, List.getElem_cons_succ]
    go_simp
    refine hK _ _ ?_
    clear hK K
    refine wpAny_take (i := 6) (v := undef) rfl (by kernel_rfl) (by kernel_rfl) (by kernel_rfl) (fun _ _ _ h => h) (Or.inr ⟨by rfl, rfl⟩) ?_
    try simp only [Act.put, List.setIfInBounds_toArray, List.set_cons_zero, List.set_cons_succ, List.getElem_toArray, List.getElem_cons_zero, List.getElem_cons_succ]
    refine wpAny_take (i := 7) (v := ?_) rfl (by kernel_rfl) (by kernel_rfl) (by kernel_rfl) (fun _ _ _ h => h) (Or.inl ⟨by rfl, ?_⟩) ?_
    rotate_left 1
    · (intro w; go_simp; try with_reducible rfl)
    try simp only [Act.put, List.setIfInBounds_toArray, List.set_cons_zero, List.set_cons_succ, List.getElem_toArray, List.getElem_cons_zero, List.getElem_cons_succ]
    refine wpAny_take (i := 8) (v := ?_) rfl (by kernel_rfl) (by kernel_rfl) (by kernel_rfl) (fun _ _ _ h => h) (Or.inl ⟨by rfl, ?_⟩) ?_
    rotate_left 1
    · (intro w; go_simp; try with_reducible rfl)
    try simp only [Act.put, List.setIfInBounds_toArray, List.set_cons_zero, List.set_cons_succ, List.getElem_toArray, List.getElem_cons_zero, List.getElem_cons_succ]
    refine wpAny_take (i := 9) (v := undef) rfl (by kernel_rfl) (by kernel_rfl) (by kernel_rfl) (fun _ _ _ h => h) (Or.inr ⟨by rfl, rfl⟩) ?_
    try simp only [Act.put, List.setIfInBounds_toArray, List.set_cons_zero, List.set_cons_succ, List.getElem_toArray, List.getElem_cons_zero, List.getElem_cons_succ]
    refine wpAny_take (i := 10) (v := undef) rfl (by kernel_rfl) (by kernel_rfl) (by kernel_rfl) (fun _ _ _ h => h) (Or.inr ⟨by rfl, rfl⟩) ?_
    try simp only [Act.put, List.setIfInBounds_toArray, List.set_cons_zero, List.set_cons_succ, List.getElem_toArray, List.getElem_cons_zero, List.getElem_cons_succ]
    refine wpAny_take (i := 11) (v := undef) rfl (by kernel_rfl) (by kernel_rfl) (by kernel_rfl) (fun _ _ _ h => h) (Or.inr ⟨by rfl, rfl⟩) ?_
    try simp only [Act.put, List.setIfInBounds_toArray, List.set_cons_zero, List.set_cons_succ, List.getElem_toArray, List.getElem_cons_zero, List.getElem_cons_succ]
    refine wpAny_take (i := 12) (v := undef) rfl (by kernel_rfl) (by kernel_rfl) (by kernel_rfl) (fun _ _ _ h => h) (Or.inr ⟨by rfl, rfl⟩) ?_
    try simp only [Act.put, List.setIfInBounds_toArray, List.set_cons_zero, List.set_cons_succ, List.getElem_toArray, List.getElem_cons_zero, List.getElem_cons_succ]
    refine wpAny_take (i := 13) (v := undef) rfl (by kernel_rfl) (by kernel_rfl) (by kernel_rfl) (fun _ _ _ h => h) (Or.inr ⟨by rfl, rfl⟩) ?_
    try simp only [Act.put, List.setIfInBounds_toArray, List.set_cons_zero, List.set_cons_succ, List.getElem_toArray, List.getElem_cons_zero, List.getElem_cons_succ]
    refine wpAny_take (i := 14) (v := undef) rfl (by kernel_rfl) (by kernel_rfl) (by kernel_rfl) (fun _ _ _ h => h) (Or.inr ⟨by rfl, rfl⟩) ?_
    try simp only [Act.put, List.setIfInBounds_toArray, List.set_cons_zero, List.set_cons_succ, List.getElem_toArray, List.getElem_cons_zero, List.getElem_cons_succ]
    refine wpAny_take (i := 15) (v := undef) rfl (by kernel_rfl) (by kernel_rfl) (by kernel_rfl) (fun _ _ _ h => h) (Or.inr ⟨by rfl, rfl⟩) ?_
    try simp only [Act.put, List.setIfInBounds_toArray, List.set_cons_zero, List.set_cons_succ, List.getElem_toArray, List.getElem_cons_zero, List.getElem_cons_succ]
    refine wpAny_take (i := 16) (v := ?_) rfl (by kernel_rfl) (by kernel_rfl) (by kernel_rfl) (fun _ _ _ h => h) (Or.inl ⟨by rfl, ?_⟩) ?_
    rotate_left 1
    · (intro w; go_simp; try with_reducible rfl)
    try simp only [Act.put, List.setIfInBounds_toArray, List.set_cons_zero, List.set_cons_succ, List.getElem_toArray, List.getElem_cons_zero, List.getElem_cons_succ]
    refine wpAny_take (i := 17) (v := ?_) rfl (by kernel_rfl) (by kernel_rfl) (by kernel_rfl) (fun _ _ _ h => h) (Or.inl ⟨by rfl, ?_⟩) ?_
    rotate_left 1
    · (intro w; go_simp; try with_reducible rfl)
    try simp only [Act.put, List.setIfInBounds_toArray, List.set_cons_zero, List.set_cons_succ, List.getElem_toArray, List.getElem_cons_zero, List.getElem_cons_succ]
    refine wpAny_done (by kernel_rfl) ?_ _
    go_wp2
    go_ret3
    exact TileM.no rfl rfl rfl (by first | exact hBw5.out.drew | exact hBw5.out.drew.drew)
  · rw [if_pos rfl]
    rw [hk2] at hC
    clear hk2
    obtain ⟨W1, hW1⟩ : ∃ W1, W1 = w.alloc (.cells #[.string s, .int .i64 a, .int .i64 (jx : Int), .int .i64 v] 65) := ⟨_, rfl⟩
    have hn1 : CB 65 W1 w.heap.size [.string s, .int .i64 a, .int .i64 (jx : Int), .int .i64 v] := by rw [hW1]; exact heap_alloc_new w _
    rw [← hW1] at hKB
    have z1 : W1.heap.size = w.heap.size + 1 := by rw [hW1]; exact World.size_alloc _ _
    have hBe1 := Lib.hid (show Below w.heap.size w W1 by rw [hW1]; exact (hB1 _).out)
    have e1 := (hBe1.out.cell (p := ⟨b0, o0 + jx * 4, none⟩) hbw).trans d1
    have e2 := (hBe1.out.cell (p := ⟨b0, o0 + jx * 4 + 1, none⟩) hbw).trans d2
    have e3 := (hBe1.out.cell (p := ⟨b0, o0 + jx * 4 + 2, none⟩) hbw).trans d3
    have e4 := (hBe1.out.cell (p := ⟨b0, o0 + jx * 4 + 3, none⟩) hbw).trans d4
    have hAl := (Below.refl W1.heap.size W1).alloc (Nat.le_refl _) (.cells #[.string ⟨#[97,100,100]⟩, .string ⟨#[115,117,98]⟩, .string ⟨#[97,110,100]⟩, .string ⟨#[120,111,114]⟩] 9)
    have zz0 : w.heap.size < W1.heap.size := by omega
    have zzb : b0 < W1.heap.size := by omega
    have zS := World.size_alloc W1 (.cells #[.string ⟨#[97,100,100]⟩, .string ⟨#[115,117,98]⟩, .string ⟨#[97,110,100]⟩, .string ⟨#[120,111,114]⟩] 9)
    have zA0 : w.heap.size < (W1.alloc (.cells #[.string ⟨#[97,100,100]⟩, .string ⟨#[115,117,98]⟩, .string ⟨#[97,110,100]⟩, .string ⟨#[120,111,114]⟩] 9)).heap.size := by omega
    have zAb : b0 < (W1.alloc (.cells #[.string ⟨#[97,100,100]⟩, .string ⟨#[115,117,98]⟩, .string ⟨#[97,110,100]⟩, .string ⟨#[120,111,114]⟩] 9)).heap.size := by omega
    have hn2 := CB.below hn1 hAl zz0
    have n0 := hn1.cell 0; have n1 := hn1.cell 1; have n2 := hn1.cell 2; have n3 := hn1.cell 3
    have a0 := hn2.cell 0; have a1 := hn2.cell 1; have a2 := hn2.cell 2; have a3 := hn2.cell 3
    simp only [List.getElem?_cons_zero, List.getElem?_cons_succ] at n0 n1 n2 n3 a0 a1 a2 a3
    have f1 := (hAl.cell (p := ⟨b0, o0 + jx * 4, none⟩) zzb).trans e1
    have f2 := (hAl.cell (p := ⟨b0, o0 + jx * 4 + 1, none⟩) zzb).trans e2
    have f3 := (hAl.cell (p := ⟨b0, o0 + jx * 4 + 2, none⟩) zzb).trans e3
    have f4 := (hAl.cell (p := ⟨b0, o0 + jx * 4 + 3, none⟩) zzb).trans e4
    clear hn1 hn2
    go_enter Try.func73, Try.ntmps73
    go_wp2
    rw [← hW1]
    clear hW1 d1 d2 d3 d4 c1 c2 c3 c4
    go_region_held3 (fun w' => w'.cell? ⟨w.heap.size, 0, none⟩ = some (.string s) ∧ w'.cell? ⟨w.heap.size, 1, none⟩ = some (.int .i64 a) ∧ w'.cell? ⟨w.heap.size, 2, none⟩ = some (.int .i64 (jx : Int)) ∧ w'.cell? ⟨w.heap.size, 3, none⟩ = some (.int .i64 v) ∧
        w'.cell? ⟨b0, o0 + jx * 4, none⟩ = some (.string ms) ∧ w'.cell? ⟨b0, o0 + jx * 4 + 1, none⟩ = some (.int .i64 ma) ∧ w'.cell? ⟨b0, o0 + jx * 4 + 2, none⟩ = some (.int .i64 mb) ∧ w'.cell? ⟨b0, o0 + jx * 4 + 3, none⟩ = some (.int .i64 mv))
      (first | exact ⟨n0, n1, n2, n3, e1, e2, e3, e4⟩ | exact ⟨a0, a1, a2, a3, f1, f2, f3, f4⟩ | exact ⟨p0, p1, p2, p3, p4, p5, p6, p7⟩ | exact ⟨m0, m1, m2, m3, m4, m5, m6, m7⟩ | go_keep)
      (first
        | (go_at_call 128; go_loud (with_reducible refine (hH.out _ ?_).mono ?_); go_loud (exact hKB.out); go_loud (rintro e w' ⟨rfl, rfl⟩))
        | (go_at_call 130; go_loud (with_reducible refine (hCW.out _).mono ?_); go_loud (rintro e w4 ⟨WA, wc, rfl, hWo, hb4⟩; have hWi := hWo.rs.more (L' := 0) (B' := w4.heap.size) (Nat.zero_le _) (Nat.le_refl _); have m0 := (hb4.cell zA0).trans a0; have m1 := (hb4.cell zA0).trans a1; have m2 := (hb4.cell zA0).trans a2; have m3 := (hb4.cell zA0).trans a3; have m4 := (hb4.cell zAb).trans f1; have m5 := (hb4.cell zAb).trans f2; have m6 := (hb4.cell zAb).trans f3; have m7 := (hb4.cell zAb).trans f4; have z40 := Nat.lt_of_lt_of_le zA0 hb4.size; have z4b := Nat.lt_of_lt_of_le zAb hb4.size))
        | (go_at_call 129; go_loud (with_reducible refine (hC.out _ _ _ ?_).mono ?_); go_loud (exact hWi); go_loud (rintro e w5 ⟨rfl, hb5⟩; have p0 := (hb5.cell z40).trans m0; have p1 := (hb5.cell z40).trans m1; have p2 := (hb5.cell z40).trans m2; have p3 := (hb5.cell z40).trans m3; have p4 := (hb5.cell z4b).trans m4; have p5 := (hb5.cell z4b).trans m5; have p6 := (hb5.cell z4b).trans m6; have p7 := (hb5.cell z4b).trans m7)))
    have hBw3 : Below w.heap.size w (W1.alloc (.cells #[.string ⟨#[97,100,100]⟩, .string ⟨#[115,117,98]⟩, .string ⟨#[97,110,100]⟩, .string ⟨#[120,111,114]⟩] 9)) := hBe1.out.trans (hAl.mono (by omega))
    have hBw4 : Below w.heap.size w w4 := hBw3.drew.trans (hb4.mono (by show w.heap.size ≤ (W1.alloc (.cells #[.string ⟨#[97,100,100]⟩, .string ⟨#[115,117,98]⟩, .string ⟨#[97,110,100]⟩, .string ⟨#[120,111,114]⟩] 9)).heap.size; omega))
    have hBw5 := Lib.hid (hBw4.trans (hb5.mono (by have := z40; omega)))
    have hw5 : w.heap.size < w5.heap.size := Nat.lt_of_lt_of_le z40 hb5.size
    have hL5 : w.heap.size ≤ w5.drew.heap.size := by show w.heap.size ≤ w5.heap.size; omega
    have t1 := Lib.hid (two_lits (W := w5.drew) (L := w.heap.size) a (jx : Int) hL5)
    have t2 := Lib.hid (two_lits (W := w5.drew) (L := w.heap.size) (jx : Int) a hL5)
    clear hb4 hb5 hWo hWi hBw3 hBw4 m0 m1 m2 m3 m4 m5 m6 m7 p4 p5 p6 p7 a0 a1 a2 a3 f1 f2 f3 f4 n0 n1 n2 n3 e1 e2 e3 e4 hAl
    go_wp2
    go_region
    all_goals go_wp2
    all_goals go_ret3
    all_goals first | exact TileM.yes rfl rfl rfl rfl rfl t1.out.1 t1.out.2.1 (hBw5.out.drew.trans (t1.out.2.2.mono hL5)) | exact TileM.yes rfl rfl rfl rfl rfl t2.out.2.1 t2.out.1 (hBw5.out.drew.trans (t2.out.2.2.mono hL5))
end Go.Proofs.Ytgcbfiamhpfkhaa

/- cvTile at the tile 4, its op being another one. -/
namespace Go.Proofs.Ytgcbfiamhpfkhaa
open Go.RowKit
set_option linter.unusedVariables false
set_option linter.unusedSimpArgs false

set_option maxRecDepth 100000 in
set_option maxHeartbeats 8000000 in
theorem cvTile_4no (L B : Nat) (A : Option Addr) (c : Nat) (es : List Nd) (k : Nat) (hk : k < es.length) (w : World) (hes : NS w L B A es) (hB : B ≤ w.heap.size) (hh : hasS [oAdd, oSub, oAnd, oXor] es[k].op = false) :
    Calls Try.prog 73 #[.slice A es.length c, .int .i64 (k : Int), .int .i64 4] w (TileM w (mt es es[k] 4)) := by
  obtain ⟨b0, o0, rfl, ⟨_, hbB⟩, hc⟩ := hes (by omega)
  have hbw : b0 < w.heap.size := by omega
  obtain ⟨c1, c2, c3, c4⟩ := hc k hk
  have hB1 := fun o => Lib.hid ((Below.refl w.heap.size w).alloc (Nat.le_refl _) o)
  clear hc hes hB hbB
  have k1 : (k : Int) < (es.length : Int) := by omega
  have hF : mt es es[k] 4 = none := by
    rw [show mt es es[k] 4 = foO es es[k] ⟨4, [oAdd, oSub, oAnd, oXor], oNo, false, []⟩ from mt_fo es es[k] 0 _ rfl]
    unfold foO
    rw [if_neg]
    unfold foOk
    rw [show hasS (⟨4, [oAdd, oSub, oAnd, oXor], oNo, false, []⟩ : Fo).ops es[k].op = false from hh]; simp
  rw [hF]
  clear hF
  generalize es[k] = nd at *
  obtain ⟨s, a, b, v⟩ := nd
  dsimp only at c1 c2 c3 c4 hh
  have hH := Lib.hid (fun W (hg : KB encS 9 W (w.heap.size + 1) [oAdd, oSub, oAnd, oXor]) => hasS_at [oAdd, oSub, oAnd, oXor] (by decide) W (w.heap.size + 1) 9 hg 4 4 rfl s)
  rw [hh] at hH
  have hKB := Lib.hid (kbS (w := w) (.cells #[.string s, .int .i64 a, .int .i64 b, .int .i64 v] 65) [oAdd, oSub, oAnd, oXor] #[.string ⟨#[97,100,100]⟩, .string ⟨#[115,117,98]⟩, .string ⟨#[97,110,100]⟩, .string ⟨#[120,111,114]⟩] rfl 9)
  have hBw := Lib.hid ((hB1 (.cells #[.string s, .int .i64 a, .int .i64 b, .int .i64 v] 65)).out.alloc (by simp) (.cells #[.string ⟨#[97,100,100]⟩, .string ⟨#[115,117,98]⟩, .string ⟨#[97,110,100]⟩, .string ⟨#[120,111,114]⟩] 9))
  go_enter Try.func73, Try.ntmps73
  go_wp2
  refine wp_region_any (by kernel_rfl) ?_
  try (change wpAny _ _ _ _ _ _ _ (World.drew _))
  refine wpAny_take (i := 0) (v := ?_) rfl (by kernel_rfl) (by kernel_rfl) (by kernel_rfl) (fun _ _ _ h => h) (Or.inl ⟨by rfl, ?_⟩) ?_
  rotate_left 1
  · (intro w; go_simp; try with_reducible rfl)
  try simp only [Act.put, List.setIfInBounds_toArray, List.set_cons_zero, List.set_cons_succ, List.getElem_toArray, List.getElem_cons_zero, List.getElem_cons_succ]
  refine wpAny_take (i := 1) (v := ?_) rfl (by kernel_rfl) (by kernel_rfl) (by kernel_rfl) (fun _ _ _ h => h) (Or.inl ⟨by rfl, ?_⟩) ?_
  rotate_left 1
  · (intro w; go_simp; try with_reducible rfl)
  try simp only [Act.put, List.setIfInBounds_toArray, List.set_cons_zero, List.set_cons_succ, List.getElem_toArray, List.getElem_cons_zero, List.getElem_cons_succ]
  refine wpAny_take (i := 2) (v := ?_) rfl (by kernel_rfl) (by kernel_rfl) (by kernel_rfl) (fun _ _ _ h => h) (Or.inl ⟨by rfl, ?_⟩) ?_
  rotate_left 1
  · (intro w; go_simp; try with_reducible rfl)
  try simp only [Act.put, List.setIfInBounds_toArray, List.set_cons_zero, List.set_cons_succ, List.getElem_toArray, List.getElem_cons_zero, List.getElem_cons_succ]
  refine wpAny_take (i := 4) (v := ?_) rfl (by kernel_rfl) (by kernel_rfl) (by kernel_rfl) (fun _ _ _ h => h) (Or.inl ⟨by rfl, ?_⟩) ?_
  rotate_left 1
  · (intro w; go_simp; try with_reducible rfl)
  try simp only [Act.put, List.setIfInBounds_toArray, List.set_cons_zero, List.set_cons_succ, List.getElem_toArray, List.getElem_cons_zero, List.getElem_cons_succ]
  refine wpAny_ready (rs := [3, 5]) (by kernel_rfl) (by simp) ?_
  refine AllReady.cons rfl (fun K hK => ?_) (AllReady.cons rfl (fun K hK => ?_) AllReady.nil)
  · try simp only [List.setIfInBounds_toArray, List.set_cons_zero, List.set_cons_succ, List.getElem_toArray, List.getElem_cons_zero, List.getElem_cons_succ]
    go_simp
    refine hK _ _ ?_
    clear hK K
    refine wpAny_ready (rs := [5]) (by kernel_rfl) (by simp) ?_
    refine AllReady.cons rfl (fun K hK => ?_) (AllReady.nil)
    try simp only [List.setIfInBounds_toArray, List.set_cons_zero, List.set_cons_succ, List.getElem_toArray, List.getElem_cons_zero, List.getElem_cons_succ]
    go_simp
    refine hK _ _ ?_
    clear hK K
    refine wpAny_ready (rs := [6]) (by kernel_rfl) (by simp) ?_
    refine AllReady.cons rfl (fun K hK => ?_) (AllReady.nil)
    try simp only [List.setIfInBounds_toArray, List.set_cons_zero, List.set_cons_succ, List.getElem_toArray, List.getElem_cons_zero, List.getElem_cons_succ]
    go_simp
    go_at_call 128
    (with_reducible refine (hH.out _ ?_).mono ?_)
    exact hKB.out
    rintro e w' ⟨rfl, rfl⟩
    try go_simp
    refine hK _ _ ?_
    clear hK K
    refine wpAny_take (i := 7) (v := ?_) rfl (by kernel_rfl) (by kernel_rfl) (by kernel_rfl) (fun _ _ _ h => h) (Or.inl ⟨by rfl, ?_⟩) ?_
    rotate_left 1
    · (intro w; go_simp; try with_reducible rfl)
    try simp only [Act.put, List.setIfInBounds_toArray, List.set_cons_zero, List.set_cons_succ, List.getElem_toArray, List.getElem_cons_zero, List.getElem_cons_succ]
    refine wpAny_take (i := 8) (v := ?_) rfl (by kernel_rfl) (by kernel_rfl) (by kernel_rfl) (fun _ _ _ h => h) (Or.inl ⟨by rfl, ?_⟩) ?_
    rotate_left 1
    · (intro w; go_simp; try with_reducible rfl)
    try simp only [Act.put, List.setIfInBounds_toArray, List.set_cons_zero, List.set_cons_succ, List.getElem_toArray, List.getElem_cons_zero, List.getElem_cons_succ]
    refine wpAny_take (i := 9) (v := undef) rfl (by kernel_rfl) (by kernel_rfl) (by kernel_rfl) (fun _ _ _ h => h) (Or.inr ⟨by rfl, rfl⟩) ?_
    try simp only [Act.put, List.setIfInBounds_toArray, List.set_cons_zero, List.set_cons_succ, List.getElem_toArray, List.getElem_cons_zero, List.getElem_cons_succ]
    refine wpAny_take (i := 10) (v := undef) rfl (by kernel_rfl) (by kernel_rfl) (by kernel_rfl) (fun _ _ _ h => h) (Or.inr ⟨by rfl, rfl⟩) ?_
    try simp only [Act.put, List.setIfInBounds_toArray, List.set_cons_zero, List.set_cons_succ, List.getElem_toArray, List.getElem_cons_zero, List.getElem_cons_succ]
    refine wpAny_take (i := 11) (v := undef) rfl (by kernel_rfl) (by kernel_rfl) (by kernel_rfl) (fun _ _ _ h => h) (Or.inr ⟨by rfl, rfl⟩) ?_
    try simp only [Act.put, List.setIfInBounds_toArray, List.set_cons_zero, List.set_cons_succ, List.getElem_toArray, List.getElem_cons_zero, List.getElem_cons_succ]
    refine wpAny_take (i := 12) (v := undef) rfl (by kernel_rfl) (by kernel_rfl) (by kernel_rfl) (fun _ _ _ h => h) (Or.inr ⟨by rfl, rfl⟩) ?_
    try simp only [Act.put, List.setIfInBounds_toArray, List.set_cons_zero, List.set_cons_succ, List.getElem_toArray, List.getElem_cons_zero, List.getElem_cons_succ]
    refine wpAny_take (i := 13) (v := undef) rfl (by kernel_rfl) (by kernel_rfl) (by kernel_rfl) (fun _ _ _ h => h) (Or.inr ⟨by rfl, rfl⟩) ?_
    try simp only [Act.put, List.setIfInBounds_toArray, List.set_cons_zero, List.set_cons_succ, List.getElem_toArray, List.getElem_cons_zero, List.getElem_cons_succ]
    refine wpAny_take (i := 14) (v := undef) rfl (by kernel_rfl) (by kernel_rfl) (by kernel_rfl) (fun _ _ _ h => h) (Or.inr ⟨by rfl, rfl⟩) ?_
    try simp only [Act.put, List.setIfInBounds_toArray, List.set_cons_zero, List.set_cons_succ, List.getElem_toArray, List.getElem_cons_zero, List.getElem_cons_succ]
    refine wpAny_take (i := 15) (v := undef) rfl (by kernel_rfl) (by kernel_rfl) (by kernel_rfl) (fun _ _ _ h => h) (Or.inr ⟨by rfl, rfl⟩) ?_
    try simp only [Act.put, List.setIfInBounds_toArray, List.set_cons_zero, List.set_cons_succ, List.getElem_toArray, List.getElem_cons_zero, List.getElem_cons_succ]
    refine wpAny_take (i := 16) (v := ?_) rfl (by kernel_rfl) (by kernel_rfl) (by kernel_rfl) (fun _ _ _ h => h) (Or.inl ⟨by rfl, ?_⟩) ?_
    rotate_left 1
    · (intro w; go_simp; try with_reducible rfl)
    try simp only [Act.put, List.setIfInBounds_toArray, List.set_cons_zero, List.set_cons_succ, List.getElem_toArray, List.getElem_cons_zero, List.getElem_cons_succ]
    refine wpAny_take (i := 17) (v := ?_) rfl (by kernel_rfl) (by kernel_rfl) (by kernel_rfl) (fun _ _ _ h => h) (Or.inl ⟨by rfl, ?_⟩) ?_
    rotate_left 1
    · (intro w; go_simp; try with_reducible rfl)
    try simp only [Act.put, List.setIfInBounds_toArray, List.set_cons_zero, List.set_cons_succ, List.getElem_toArray, List.getElem_cons_zero, List.getElem_cons_succ]
    refine wpAny_done (by kernel_rfl) ?_ _
    go_wp2
    refine wp_region_any (by kernel_rfl) ?_
    try (change wpAny _ _ _ _ _ _ _ (World.drew _))
    refine wpAny_take (i := 0) (v := ?_) rfl (by kernel_rfl) (by kernel_rfl) (by kernel_rfl) (fun _ _ _ h => h) (Or.inl ⟨by rfl, ?_⟩) ?_
    rotate_left 1
    · (intro w; go_simp; try with_reducible rfl)
    try simp only [Act.put, List.setIfInBounds_toArray, List.set_cons_zero, List.set_cons_succ, List.getElem_toArray, List.getElem_cons_zero, List.getElem_cons_succ]
    refine wpAny_take (i := 1) (v := ?_) rfl (by kernel_rfl) (by kernel_rfl) (by kernel_rfl) (fun _ _ _ h => h) (Or.inl ⟨by rfl, ?_⟩) ?_
    rotate_left 1
    · (intro w; go_simp; try with_reducible rfl)
    try simp only [Act.put, List.setIfInBounds_toArray, List.set_cons_zero, List.set_cons_succ, List.getElem_toArray, List.getElem_cons_zero, List.getElem_cons_succ]
    refine wpAny_take (i := 2) (v := ?_) rfl (by kernel_rfl) (by kernel_rfl) (by kernel_rfl) (fun _ _ _ h => h) (Or.inl ⟨by rfl, ?_⟩) ?_
    rotate_left 1
    · (intro w; go_simp; try with_reducible rfl)
    try simp only [Act.put, List.setIfInBounds_toArray, List.set_cons_zero, List.set_cons_succ, List.getElem_toArray, List.getElem_cons_zero, List.getElem_cons_succ]
    refine wpAny_take (i := 4) (v := undef) rfl (by kernel_rfl) (by kernel_rfl) (by kernel_rfl) (fun _ _ _ h => h) (Or.inr ⟨by rfl, rfl⟩) ?_
    try simp only [Act.put, List.setIfInBounds_toArray, List.set_cons_zero, List.set_cons_succ, List.getElem_toArray, List.getElem_cons_zero, List.getElem_cons_succ]
    refine wpAny_take (i := 5) (v := undef) rfl (by kernel_rfl) (by kernel_rfl) (by kernel_rfl) (fun _ _ _ h => h) (Or.inr ⟨by rfl, rfl⟩) ?_
    try simp only [Act.put, List.setIfInBounds_toArray, List.set_cons_zero, List.set_cons_succ, List.getElem_toArray, List.getElem_cons_zero, List.getElem_cons_succ]
    refine wpAny_ready (rs := [3]) (by kernel_rfl) (by simp) ?_
    refine AllReady.cons rfl (fun K hK => ?_) (AllReady.nil)
    try simp only [List.setIfInBounds_toArray, List.set_cons_zero, List.set_cons_succ, List.getElem_toArray, List.getElem_cons_zero, List.getElem_cons_succ]
    go_simp
    refine hK _ _ ?_
    clear hK K
    refine wpAny_take (i := 6) (v := undef) rfl (by kernel_rfl) (by kernel_rfl) (by kernel_rfl) (fun _ _ _ h => h) (Or.inr ⟨by rfl, rfl⟩) ?_
    try simp only [Act.put, List.setIfInBounds_toArray, List.set_cons_zero, List.set_cons_succ, List.getElem_toArray, List.getElem_cons_zero, List.getElem_cons_succ]
    refine wpAny_take (i := 7) (v := ?_) rfl (by kernel_rfl) (by kernel_rfl) (by kernel_rfl) (fun _ _ _ h => h) (Or.inl ⟨by rfl, ?_⟩) ?_
    rotate_left 1
    · (intro w; go_simp; try with_reducible rfl)
    try simp only [Act.put, List.setIfInBounds_toArray, List.set_cons_zero, List.set_cons_succ, List.getElem_toArray, List.getElem_cons_zero, List.getElem_cons_succ]
    refine wpAny_take (i := 8) (v := ?_) rfl (by kernel_rfl) (by kernel_rfl) (by kernel_rfl) (fun _ _ _ h => h) (Or.inl ⟨by rfl, ?_⟩) ?_
    rotate_left 1
    · (intro w; go_simp; try with_reducible rfl)
    try simp only [Act.put, List.setIfInBounds_toArray, List.set_cons_zero, List.set_cons_succ, List.getElem_toArray, List.getElem_cons_zero, List.getElem_cons_succ]
    refine wpAny_take (i := 9) (v := undef) rfl (by kernel_rfl) (by kernel_rfl) (by kernel_rfl) (fun _ _ _ h => h) (Or.inr ⟨by rfl, rfl⟩) ?_
    try simp only [Act.put, List.setIfInBounds_toArray, List.set_cons_zero, List.set_cons_succ, List.getElem_toArray, List.getElem_cons_zero, List.getElem_cons_succ]
    refine wpAny_take (i := 10) (v := undef) rfl (by kernel_rfl) (by kernel_rfl) (by kernel_rfl) (fun _ _ _ h => h) (Or.inr ⟨by rfl, rfl⟩) ?_
    try simp only [Act.put, List.setIfInBounds_toArray, List.set_cons_zero, List.set_cons_succ, List.getElem_toArray, List.getElem_cons_zero, List.getElem_cons_succ]
    refine wpAny_take (i := 11) (v := undef) rfl (by kernel_rfl) (by kernel_rfl) (by kernel_rfl) (fun _ _ _ h => h) (Or.inr ⟨by rfl, rfl⟩) ?_
    try simp only [Act.put, List.setIfInBounds_toArray, List.set_cons_zero, List.set_cons_succ, List.getElem_toArray, List.getElem_cons_zero, List.getElem_cons_succ]
    refine wpAny_take (i := 12) (v := undef) rfl (by kernel_rfl) (by kernel_rfl) (by kernel_rfl) (fun _ _ _ h => h) (Or.inr ⟨by rfl, rfl⟩) ?_
    try simp only [Act.put, List.setIfInBounds_toArray, List.set_cons_zero, List.set_cons_succ, List.getElem_toArray, List.getElem_cons_zero, List.getElem_cons_succ]
    refine wpAny_take (i := 13) (v := undef) rfl (by kernel_rfl) (by kernel_rfl) (by kernel_rfl) (fun _ _ _ h => h) (Or.inr ⟨by rfl, rfl⟩) ?_
    try simp only [Act.put, List.setIfInBounds_toArray, List.set_cons_zero, List.set_cons_succ, List.getElem_toArray, List.getElem_cons_zero, List.getElem_cons_succ]
    refine wpAny_take (i := 14) (v := undef) rfl (by kernel_rfl) (by kernel_rfl) (by kernel_rfl) (fun _ _ _ h => h) (Or.inr ⟨by rfl, rfl⟩) ?_
    try simp only [Act.put, List.setIfInBounds_toArray, List.set_cons_zero, List.set_cons_succ, List.getElem_toArray, List.getElem_cons_zero, List.getElem_cons_succ]
    refine wpAny_take (i := 15) (v := undef) rfl (by kernel_rfl) (by kernel_rfl) (by kernel_rfl) (fun _ _ _ h => h) (Or.inr ⟨by rfl, rfl⟩) ?_
    try simp only [Act.put, List.setIfInBounds_toArray, List.set_cons_zero, List.set_cons_succ, List.getElem_toArray, List.getElem_cons_zero, List.getElem_cons_succ]
    refine wpAny_take (i := 16) (v := ?_) rfl (by kernel_rfl) (by kernel_rfl) (by kernel_rfl) (fun _ _ _ h => h) (Or.inl ⟨by rfl, ?_⟩) ?_
    rotate_left 1
    · (intro w; go_simp; try with_reducible rfl)
    try simp only [Act.put, List.setIfInBounds_toArray, List.set_cons_zero, List.set_cons_succ, List.getElem_toArray, List.getElem_cons_zero, List.getElem_cons_succ]
    refine wpAny_take (i := 17) (v := ?_) rfl (by kernel_rfl) (by kernel_rfl) (by kernel_rfl) (fun _ _ _ h => h) (Or.inl ⟨by rfl, ?_⟩) ?_
    rotate_left 1
    · (intro w; go_simp; try with_reducible rfl)
    try simp only [Act.put, List.setIfInBounds_toArray, List.set_cons_zero, List.set_cons_succ, List.getElem_toArray, List.getElem_cons_zero, List.getElem_cons_succ]
    refine wpAny_done (by kernel_rfl) ?_ _
    go_wp2
    go_ret3
    exact TileM.no rfl rfl rfl (by first | exact hBw.out.drew.drew | exact hBw.out.drew)
  · try simp only [List.setIfInBounds_toArray, List.set_cons_zero, List.set_cons_succ, List.getElem_toArray, List.getElem_cons_zero, List.getElem_cons_succ]
    go_simp
    refine hK _ _ ?_
    clear hK K
    refine wpAny_ready (rs := [3]) (by kernel_rfl) (by simp) ?_
    refine AllReady.cons rfl (fun K hK => ?_) (AllReady.nil)
    try simp only [List.setIfInBounds_toArray, List.set_cons_zero, List.set_cons_succ, List.getElem_toArray, List.getElem_cons_zero, List.getElem_cons_succ]
    go_simp
    refine hK _ _ ?_
    clear hK K
    refine wpAny_ready (rs := [6]) (by kernel_rfl) (by simp) ?_
    refine AllReady.cons rfl (fun K hK => ?_) (AllReady.nil)
    try simp only [List.setIfInBounds_toArray, List.set_cons_zero, List.set_cons_succ, List.getElem_toArray, List.getElem_cons_zero, List.getElem_cons_succ]
    go_simp
    go_at_call 128
    (with_reducible refine (hH.out _ ?_).mono ?_)
    exact hKB.out
    rintro e w' ⟨rfl, rfl⟩
    try go_simp
    refine hK _ _ ?_
    clear hK K
    refine wpAny_take (i := 7) (v := ?_) rfl (by kernel_rfl) (by kernel_rfl) (by kernel_rfl) (fun _ _ _ h => h) (Or.inl ⟨by rfl, ?_⟩) ?_
    rotate_left 1
    · (intro w; go_simp; try with_reducible rfl)
    try simp only [Act.put, List.setIfInBounds_toArray, List.set_cons_zero, List.set_cons_succ, List.getElem_toArray, List.getElem_cons_zero, List.getElem_cons_succ]
    refine wpAny_take (i := 8) (v := ?_) rfl (by kernel_rfl) (by kernel_rfl) (by kernel_rfl) (fun _ _ _ h => h) (Or.inl ⟨by rfl, ?_⟩) ?_
    rotate_left 1
    · (intro w; go_simp; try with_reducible rfl)
    try simp only [Act.put, List.setIfInBounds_toArray, List.set_cons_zero, List.set_cons_succ, List.getElem_toArray, List.getElem_cons_zero, List.getElem_cons_succ]
    refine wpAny_take (i := 9) (v := undef) rfl (by kernel_rfl) (by kernel_rfl) (by kernel_rfl) (fun _ _ _ h => h) (Or.inr ⟨by rfl, rfl⟩) ?_
    try simp only [Act.put, List.setIfInBounds_toArray, List.set_cons_zero, List.set_cons_succ, List.getElem_toArray, List.getElem_cons_zero, List.getElem_cons_succ]
    refine wpAny_take (i := 10) (v := undef) rfl (by kernel_rfl) (by kernel_rfl) (by kernel_rfl) (fun _ _ _ h => h) (Or.inr ⟨by rfl, rfl⟩) ?_
    try simp only [Act.put, List.setIfInBounds_toArray, List.set_cons_zero, List.set_cons_succ, List.getElem_toArray, List.getElem_cons_zero, List.getElem_cons_succ]
    refine wpAny_take (i := 11) (v := undef) rfl (by kernel_rfl) (by kernel_rfl) (by kernel_rfl) (fun _ _ _ h => h) (Or.inr ⟨by rfl, rfl⟩) ?_
    try simp only [Act.put, List.setIfInBounds_toArray, List.set_cons_zero, List.set_cons_succ, List.getElem_toArray, List.getElem_cons_zero, List.getElem_cons_succ]
    refine wpAny_take (i := 12) (v := undef) rfl (by kernel_rfl) (by kernel_rfl) (by kernel_rfl) (fun _ _ _ h => h) (Or.inr ⟨by rfl, rfl⟩) ?_
    try simp only [Act.put, List.setIfInBounds_toArray, List.set_cons_zero, List.set_cons_succ, List.getElem_toArray, List.getElem_cons_zero, List.getElem_cons_succ]
    refine wpAny_take (i := 13) (v := undef) rfl (by kernel_rfl) (by kernel_rfl) (by kernel_rfl) (fun _ _ _ h => h) (Or.inr ⟨by rfl, rfl⟩) ?_
    try simp only [Act.put, List.setIfInBounds_toArray, List.set_cons_zero, List.set_cons_succ, List.getElem_toArray, List.getElem_cons_zero, List.getElem_cons_succ]
    refine wpAny_take (i := 14) (v := undef) rfl (by kernel_rfl) (by kernel_rfl) (by kernel_rfl) (fun _ _ _ h => h) (Or.inr ⟨by rfl, rfl⟩) ?_
    try simp only [Act.put, List.setIfInBounds_toArray, List.set_cons_zero, List.set_cons_succ, List.getElem_toArray, List.getElem_cons_zero, List.getElem_cons_succ]
    refine wpAny_take (i := 15) (v := undef) rfl (by kernel_rfl) (by kernel_rfl) (by kernel_rfl) (fun _ _ _ h => h) (Or.inr ⟨by rfl, rfl⟩) ?_
    try simp only [Act.put, List.setIfInBounds_toArray, List.set_cons_zero, List.set_cons_succ, List.getElem_toArray, List.getElem_cons_zero, List.getElem_cons_succ]
    refine wpAny_take (i := 16) (v := ?_) rfl (by kernel_rfl) (by kernel_rfl) (by kernel_rfl) (fun _ _ _ h => h) (Or.inl ⟨by rfl, ?_⟩) ?_
    rotate_left 1
    · (intro w; go_simp; try with_reducible rfl)
    try simp only [Act.put, List.setIfInBounds_toArray, List.set_cons_zero, List.set_cons_succ, List.getElem_toArray, List.getElem_cons_zero, List.getElem_cons_succ]
    refine wpAny_take (i := 17) (v := ?_) rfl (by kernel_rfl) (by kernel_rfl) (by kernel_rfl) (fun _ _ _ h => h) (Or.inl ⟨by rfl, ?_⟩) ?_
    rotate_left 1
    · (intro w; go_simp; try with_reducible rfl)
    try simp only [Act.put, List.setIfInBounds_toArray, List.set_cons_zero, List.set_cons_succ, List.getElem_toArray, List.getElem_cons_zero, List.getElem_cons_succ]
    refine wpAny_done (by kernel_rfl) ?_ _
    go_wp2
    refine wp_region_any (by kernel_rfl) ?_
    try (change wpAny _ _ _ _ _ _ _ (World.drew _))
    refine wpAny_take (i := 0) (v := ?_) rfl (by kernel_rfl) (by kernel_rfl) (by kernel_rfl) (fun _ _ _ h => h) (Or.inl ⟨by rfl, ?_⟩) ?_
    rotate_left 1
    · (intro w; go_simp; try with_reducible rfl)
    try simp only [Act.put, List.setIfInBounds_toArray, List.set_cons_zero, List.set_cons_succ, List.getElem_toArray, List.getElem_cons_zero, List.getElem_cons_succ]
    refine wpAny_take (i := 1) (v := ?_) rfl (by kernel_rfl) (by kernel_rfl) (by kernel_rfl) (fun _ _ _ h => h) (Or.inl ⟨by rfl, ?_⟩) ?_
    rotate_left 1
    · (intro w; go_simp; try with_reducible rfl)
    try simp only [Act.put, List.setIfInBounds_toArray, List.set_cons_zero, List.set_cons_succ, List.getElem_toArray, List.getElem_cons_zero, List.getElem_cons_succ]
    refine wpAny_take (i := 2) (v := ?_) rfl (by kernel_rfl) (by kernel_rfl) (by kernel_rfl) (fun _ _ _ h => h) (Or.inl ⟨by rfl, ?_⟩) ?_
    rotate_left 1
    · (intro w; go_simp; try with_reducible rfl)
    try simp only [Act.put, List.setIfInBounds_toArray, List.set_cons_zero, List.set_cons_succ, List.getElem_toArray, List.getElem_cons_zero, List.getElem_cons_succ]
    refine wpAny_take (i := 4) (v := undef) rfl (by kernel_rfl) (by kernel_rfl) (by kernel_rfl) (fun _ _ _ h => h) (Or.inr ⟨by rfl, rfl⟩) ?_
    try simp only [Act.put, List.setIfInBounds_toArray, List.set_cons_zero, List.set_cons_succ, List.getElem_toArray, List.getElem_cons_zero, List.getElem_cons_succ]
    refine wpAny_take (i := 5) (v := undef) rfl (by kernel_rfl) (by kernel_rfl) (by kernel_rfl) (fun _ _ _ h => h) (Or.inr ⟨by rfl, rfl⟩) ?_
    try simp only [Act.put, List.setIfInBounds_toArray, List.set_cons_zero, List.set_cons_succ, List.getElem_toArray, List.getElem_cons_zero, List.getElem_cons_succ]
    refine wpAny_ready (rs := [3]) (by kernel_rfl) (by simp) ?_
    refine AllReady.cons rfl (fun K hK => ?_) (AllReady.nil)
    try simp only [List.setIfInBounds_toArray, List.set_cons_zero, List.set_cons_succ, List.getElem_toArray, List.getElem_cons_zero, List.getElem_cons_succ]
    go_simp
    refine hK _ _ ?_
    clear hK K
    refine wpAny_take (i := 6) (v := undef) rfl (by kernel_rfl) (by kernel_rfl) (by kernel_rfl) (fun _ _ _ h => h) (Or.inr ⟨by rfl, rfl⟩) ?_
    try simp only [Act.put, List.setIfInBounds_toArray, List.set_cons_zero, List.set_cons_succ, List.getElem_toArray, List.getElem_cons_zero, List.getElem_cons_succ]
    refine wpAny_take (i := 7) (v := ?_) rfl (by kernel_rfl) (by kernel_rfl) (by kernel_rfl) (fun _ _ _ h => h) (Or.inl ⟨by rfl, ?_⟩) ?_
    rotate_left 1
    · (intro w; go_simp; try with_reducible rfl)
    try simp only [Act.put, List.setIfInBounds_toArray, List.set_cons_zero, List.set_cons_succ, List.getElem_toArray, List.getElem_cons_zero, List.getElem_cons_succ]
    refine wpAny_take (i := 8) (v := ?_) rfl (by kernel_rfl) (by kernel_rfl) (by kernel_rfl) (fun _ _ _ h => h) (Or.inl ⟨by rfl, ?_⟩) ?_
    rotate_left 1
    · (intro w; go_simp; try with_reducible rfl)
    try simp only [Act.put, List.setIfInBounds_toArray, List.set_cons_zero, List.set_cons_succ, List.getElem_toArray, List.getElem_cons_zero, List.getElem_cons_succ]
    refine wpAny_take (i := 9) (v := undef) rfl (by kernel_rfl) (by kernel_rfl) (by kernel_rfl) (fun _ _ _ h => h) (Or.inr ⟨by rfl, rfl⟩) ?_
    try simp only [Act.put, List.setIfInBounds_toArray, List.set_cons_zero, List.set_cons_succ, List.getElem_toArray, List.getElem_cons_zero, List.getElem_cons_succ]
    refine wpAny_take (i := 10) (v := undef) rfl (by kernel_rfl) (by kernel_rfl) (by kernel_rfl) (fun _ _ _ h => h) (Or.inr ⟨by rfl, rfl⟩) ?_
    try simp only [Act.put, List.setIfInBounds_toArray, List.set_cons_zero, List.set_cons_succ, List.getElem_toArray, List.getElem_cons_zero, List.getElem_cons_succ]
    refine wpAny_take (i := 11) (v := undef) rfl (by kernel_rfl) (by kernel_rfl) (by kernel_rfl) (fun _ _ _ h => h) (Or.inr ⟨by rfl, rfl⟩) ?_
    try simp only [Act.put, List.setIfInBounds_toArray, List.set_cons_zero, List.set_cons_succ, List.getElem_toArray, List.getElem_cons_zero, List.getElem_cons_succ]
    refine wpAny_take (i := 12) (v := undef) rfl (by kernel_rfl) (by kernel_rfl) (by kernel_rfl) (fun _ _ _ h => h) (Or.inr ⟨by rfl, rfl⟩) ?_
    try simp only [Act.put, List.setIfInBounds_toArray, List.set_cons_zero, List.set_cons_succ, List.getElem_toArray, List.getElem_cons_zero, List.getElem_cons_succ]
    refine wpAny_take (i := 13) (v := undef) rfl (by kernel_rfl) (by kernel_rfl) (by kernel_rfl) (fun _ _ _ h => h) (Or.inr ⟨by rfl, rfl⟩) ?_
    try simp only [Act.put, List.setIfInBounds_toArray, List.set_cons_zero, List.set_cons_succ, List.getElem_toArray, List.getElem_cons_zero, List.getElem_cons_succ]
    refine wpAny_take (i := 14) (v := undef) rfl (by kernel_rfl) (by kernel_rfl) (by kernel_rfl) (fun _ _ _ h => h) (Or.inr ⟨by rfl, rfl⟩) ?_
    try simp only [Act.put, List.setIfInBounds_toArray, List.set_cons_zero, List.set_cons_succ, List.getElem_toArray, List.getElem_cons_zero, List.getElem_cons_succ]
    refine wpAny_take (i := 15) (v := undef) rfl (by kernel_rfl) (by kernel_rfl) (by kernel_rfl) (fun _ _ _ h => h) (Or.inr ⟨by rfl, rfl⟩) ?_
    try simp only [Act.put, List.setIfInBounds_toArray, List.set_cons_zero, List.set_cons_succ, List.getElem_toArray, List.getElem_cons_zero, List.getElem_cons_succ]
    refine wpAny_take (i := 16) (v := ?_) rfl (by kernel_rfl) (by kernel_rfl) (by kernel_rfl) (fun _ _ _ h => h) (Or.inl ⟨by rfl, ?_⟩) ?_
    rotate_left 1
    · (intro w; go_simp; try with_reducible rfl)
    try simp only [Act.put, List.setIfInBounds_toArray, List.set_cons_zero, List.set_cons_succ, List.getElem_toArray, List.getElem_cons_zero, List.getElem_cons_succ]
    refine wpAny_take (i := 17) (v := ?_) rfl (by kernel_rfl) (by kernel_rfl) (by kernel_rfl) (fun _ _ _ h => h) (Or.inl ⟨by rfl, ?_⟩) ?_
    rotate_left 1
    · (intro w; go_simp; try with_reducible rfl)
    try simp only [Act.put, List.setIfInBounds_toArray, List.set_cons_zero, List.set_cons_succ, List.getElem_toArray, List.getElem_cons_zero, List.getElem_cons_succ]
    refine wpAny_done (by kernel_rfl) ?_ _
    go_wp2
    go_ret3
    exact TileM.no rfl rfl rfl (by first | exact hBw.out.drew.drew | exact hBw.out.drew)
end Go.Proofs.Ytgcbfiamhpfkhaa

/- cvTile at the tile 5, its op being one of three. -/
namespace Go.Proofs.Ytgcbfiamhpfkhaa
open Go.RowKit
set_option linter.unusedVariables false
set_option linter.unusedSimpArgs false

set_option maxRecDepth 100000 in
set_option maxHeartbeats 8000000 in
theorem cvTile_5yes (L B : Nat) (A : Option Addr) (c : Nat) (es : List Nd) (k : Nat) (hk : k < es.length) (w : World) (hes : NS w L B A es) (hB : B ≤ w.heap.size) (hok : okFrom es 0 = true) (hh : hasS [oAdd, oAnd, oXor] es[k].op = true) :
    Calls Try.prog 73 #[.slice A es.length c, .int .i64 (k : Int), .int .i64 5] w (TileM w (mt es es[k] 5)) := by
  obtain ⟨b0, o0, rfl, ⟨_, hbB⟩, hc⟩ := hes (by omega)
  have hbw : b0 < w.heap.size := by omega
  obtain ⟨c1, c2, c3, c4⟩ := hc k hk
  have hB1 := fun o => Lib.hid ((Below.refl w.heap.size w).alloc (Nat.le_refl _) o)
  have hcc := Lib.hid hc
  clear hc hes hB hbB
  have k1 : (k : Int) < (es.length : Int) := by omega
  have hnb : noBtw ⟨5, [oAdd, oAnd, oXor], oNo, true, []⟩ = true := by decide +kernel
  have hF : mt es es[k] 5 = foO es es[k] ⟨5, [oAdd, oAnd, oXor], oNo, true, []⟩ := mt_fo es es[k] 1 _ rfl
  have h2 := two_bd (ok_get hok hk) (two_of_has (f := ⟨5, [oAdd, oAnd, oXor], oNo, true, []⟩) (by simp [fos]) hh)
  obtain ⟨jx, hjx⟩ : ∃ jx : Nat, es[k].a = (jx : Int) := ⟨es[k].a.toNat, by omega⟩
  have hjk : jx < es.length := by omega
  obtain ⟨d1, d2, d3, d4⟩ := hcc.out jx hjk
  have hO : foOk es ⟨5, [oAdd, oAnd, oXor], oNo, true, []⟩ es[k] = kon (wordsTo 64) es[jx] := by
    rw [kon_words (ok_get hok hjk)]
    unfold foOk
    rw [if_pos hnb]
    show (hasS [oAdd, oAnd, oXor] es[k].op && (isConst (nodeAt es es[k].a).op && true)) = _
    rw [hh, hjx, nodeAt_nat hjk, Bool.true_and, Bool.and_true]
  have hT : foTi es ⟨5, [oAdd, oAnd, oXor], oNo, true, []⟩ es[k] = ⟨5, [es[k].b], [es[k].a], 1⟩ := by unfold foTi; rw [if_pos hnb]; rfl
  rw [hF]
  unfold foO
  rw [hO, hT, hjx]
  clear hF hO hT hnb h2
  generalize es[jx] = md at *
  obtain ⟨ms, ma, mb, mv⟩ := md
  dsimp only at d1 d2 d3 d4
  generalize es[k] = nd at *
  obtain ⟨s, a, b, v⟩ := nd
  dsimp only at c1 c2 c3 c4 hh hjx ⊢
  subst hjx
  have hjl : (jx : Int) < (es.length : Int) := by omega
  have hH := Lib.hid (fun W (hg : KB encS 9 W (w.heap.size + 1) [oAdd, oAnd, oXor]) => hasS_at [oAdd, oAnd, oXor] (by decide) W (w.heap.size + 1) 9 hg 3 3 rfl s)
  rw [hh] at hH
  have hKB := Lib.hid (kbS (w := w) (.cells #[.string s, .int .i64 (jx : Int), .int .i64 b, .int .i64 v] 65) [oAdd, oAnd, oXor] #[.string ⟨#[97,100,100]⟩, .string ⟨#[97,110,100]⟩, .string ⟨#[120,111,114]⟩] rfl 9)
  have hC := Lib.hid (fun W WA wc (hI : IS W 0 W.heap.size WA (wordsTo 64)) => cvConst_any 0 W.heap.size WA (wordsTo 64).length wc (wordsTo 64) ms ma mb mv W rfl hI (Nat.le_refl _) (by rw [wordsTo_len]; decide))
  have hWl := Lib.hid (wordsTo_len 64)
  have hCW := Lib.hid cvWords_any
  generalize wordsTo 64 = wds at *
  cases hk2 : kon wds ⟨ms, ma, mb, mv⟩
  · rw [if_neg (by simp)]
    rw [hk2] at hC
    clear hk2
    obtain ⟨W1, hW1⟩ : ∃ W1, W1 = w.alloc (.cells #[.string s, .int .i64 (jx : Int), .int .i64 b, .int .i64 v] 65) := ⟨_, rfl⟩
    have hn1 : CB 65 W1 w.heap.size [.string s, .int .i64 (jx : Int), .int .i64 b, .int .i64 v] := by rw [hW1]; exact heap_alloc_new w _
    rw [← hW1] at hKB
    have z1 : W1.heap.size = w.heap.size + 1 := by rw [hW1]; exact World.size_alloc _ _
    have hBe1 := Lib.hid (show Below w.heap.size w W1 by rw [hW1]; exact (hB1 _).out)
    have e1 := (hBe1.out.cell (p := ⟨b0, o0 + jx * 4, none⟩) hbw).trans d1
    have e2 := (hBe1.out.cell (p := ⟨b0, o0 + jx * 4 + 1, none⟩) hbw).trans d2
    have e3 := (hBe1.out.cell (p := ⟨b0, o0 + jx * 4 + 2, none⟩) hbw).trans d3
    have e4 := (hBe1.out.cell (p := ⟨b0, o0 + jx * 4 + 3, none⟩) hbw).trans d4
    have hAl := (Below.refl W1.heap.size W1).alloc (Nat.le_refl _) (.cells #[.string ⟨#[97,100,100]⟩, .string ⟨#[97,110,100]⟩, .string ⟨#[120,111,114]⟩] 9)
    have zz0 : w.heap.size < W1.heap.size := by omega
    have zzb : b0 < W1.heap.size := by omega
    have zS := World.size_alloc W1 (.cells #[.string ⟨#[97,100,100]⟩, .string ⟨#[97,110,100]⟩, .string ⟨#[120,111,114]⟩] 9)
    have zA0 : w.heap.size < (W1.alloc (.cells #[.string ⟨#[97,100,100]⟩, .string ⟨#[97,110,100]⟩, .string ⟨#[120,111,114]⟩] 9)).heap.size := by omega
    have zAb : b0 < (W1.alloc (.cells #[.string ⟨#[97,100,100]⟩, .string ⟨#[97,110,100]⟩, .string ⟨#[120,111,114]⟩] 9)).heap.size := by omega
    have hn2 := CB.below hn1 hAl zz0
    have n0 := hn1.cell 0; have n1 := hn1.cell 1; have n2 := hn1.cell 2; have n3 := hn1.cell 3
    have a0 := hn2.cell 0; have a1 := hn2.cell 1; have a2 := hn2.cell 2; have a3 := hn2.cell 3
    simp only [List.getElem?_cons_zero, List.getElem?_cons_succ] at n0 n1 n2 n3 a0 a1 a2 a3
    have f1 := (hAl.cell (p := ⟨b0, o0 + jx * 4, none⟩) zzb).trans e1
    have f2 := (hAl.cell (p := ⟨b0, o0 + jx * 4 + 1, none⟩) zzb).trans e2
    have f3 := (hAl.cell (p := ⟨b0, o0 + jx * 4 + 2, none⟩) zzb).trans e3
    have f4 := (hAl.cell (p := ⟨b0, o0 + jx * 4 + 3, none⟩) zzb).trans e4
    clear hn1 hn2
    go_enter Try.func73, Try.ntmps73
    go_wp2
    refine wp_region_any (by kernel_rfl) ?_
    try (change wpAny _ _ _ _ _ _ _ (World.drew _))
    refine wpAny_take (i := 0) (v := ?_) rfl (by kernel_rfl) (by kernel_rfl) (by kernel_rfl) (fun _ _ _ h => h) (Or.inl ⟨by rfl, ?_⟩) ?_
    rotate_left 1
    · (intro w; go_simp; try with_reducible rfl)
    try simp only [Act.put, List.setIfInBounds_toArray, List.set_cons_zero, List.set_cons_succ, List.getElem_toArray, List.getElem_cons_zero, List.getElem_cons_succ]
    refine wpAny_take (i := 1) (v := ?_) rfl (by kernel_rfl) (by kernel_rfl) (by kernel_rfl) (fun _ _ _ h => h) (Or.inl ⟨by rfl, ?_⟩) ?_
    rotate_left 1
    · (intro w; go_simp; try with_reducible rfl)
    try simp only [Act.put, List.setIfInBounds_toArray, List.set_cons_zero, List.set_cons_succ, List.getElem_toArray, List.getElem_cons_zero, List.getElem_cons_succ]
    refine wpAny_take (i := 2) (v := ?_) rfl (by kernel_rfl) (by kernel_rfl) (by kernel_rfl) (fun _ _ _ h => h) (Or.inl ⟨by rfl, ?_⟩) ?_
    rotate_left 1
    · (intro w; go_simp; try with_reducible rfl)
    try simp only [Act.put, List.setIfInBounds_toArray, List.set_cons_zero, List.set_cons_succ, List.getElem_toArray, List.getElem_cons_zero, List.getElem_cons_succ]
    refine wpAny_take (i := 4) (v := undef) rfl (by kernel_rfl) (by kernel_rfl) (by kernel_rfl) (fun _ _ _ h => h) (Or.inr ⟨by rfl, rfl⟩) ?_
    try simp only [Act.put, List.setIfInBounds_toArray, List.set_cons_zero, List.set_cons_succ, List.getElem_toArray, List.getElem_cons_zero, List.getElem_cons_succ]
    refine wpAny_take (i := 5) (v := undef) rfl (by kernel_rfl) (by kernel_rfl) (by kernel_rfl) (fun _ _ _ h => h) (Or.inr ⟨by rfl, rfl⟩) ?_
    try simp only [Act.put, List.setIfInBounds_toArray, List.set_cons_zero, List.set_cons_succ, List.getElem_toArray, List.getElem_cons_zero, List.getElem_cons_succ]
    refine wpAny_ready (rs := [3]) (by kernel_rfl) (by simp) ?_
    refine AllReady.cons rfl (fun K hK => ?_) (AllReady.nil)
    try simp only [List.setIfInBounds_toArray, List.set_cons_zero, List.set_cons_succ, List.getElem_toArray, List.getElem_cons_zero, List.getElem_cons_succ]
    go_simp
    refine hK _ _ ?_
    clear hK K
    refine wpAny_take (i := 6) (v := undef) rfl (by kernel_rfl) (by kernel_rfl) (by kernel_rfl) (fun _ _ _ h => h) (Or.inr ⟨by rfl, rfl⟩) ?_
    try simp only [Act.put, List.setIfInBounds_toArray, List.set_cons_zero, List.set_cons_succ, List.getElem_toArray, List.getElem_cons_zero, List.getElem_cons_succ]
    refine wpAny_take (i := 7) (v := ?_) rfl (by kernel_rfl) (by kernel_rfl) (by kernel_rfl) (fun _ _ _ h => h) (Or.inl ⟨by rfl, ?_⟩) ?_
    rotate_left 1
    · (intro w; go_simp; try with_reducible rfl)
    try simp only [Act.put, List.setIfInBounds_toArray, List.set_cons_zero, List.set_cons_succ, List.getElem_toArray, List.getElem_cons_zero, List.getElem_cons_succ]
    refine wpAny_take (i := 8) (v := ?_) rfl (by kernel_rfl) (by kernel_rfl) (by kernel_rfl) (fun _ _ _ h => h) (Or.inl ⟨by rfl, ?_⟩) ?_
    rotate_left 1
    · (intro w; go_simp; try with_reducible rfl)
    try simp only [Act.put, List.setIfInBounds_toArray, List.set_cons_zero, List.set_cons_succ, List.getElem_toArray, List.getElem_cons_zero, List.getElem_cons_succ]
    refine wpAny_take (i := 9) (v := undef) rfl (by kernel_rfl) (by kernel_rfl) (by kernel_rfl) (fun _ _ _ h => h) (Or.inr ⟨by rfl, rfl⟩) ?_
    try simp only [Act.put, List.setIfInBounds_toArray, List.set_cons_zero, List.set_cons_succ, List.getElem_toArray, List.getElem_cons_zero, List.getElem_cons_succ]
    refine wpAny_take (i := 10) (v := undef) rfl (by kernel_rfl) (by kernel_rfl) (by kernel_rfl) (fun _ _ _ h => h) (Or.inr ⟨by rfl, rfl⟩) ?_
    try simp only [Act.put, List.setIfInBounds_toArray, List.set_cons_zero, List.set_cons_succ, List.getElem_toArray, List.getElem_cons_zero, List.getElem_cons_succ]
    refine wpAny_take (i := 11) (v := undef) rfl (by kernel_rfl) (by kernel_rfl) (by kernel_rfl) (fun _ _ _ h => h) (Or.inr ⟨by rfl, rfl⟩) ?_
    try simp only [Act.put, List.setIfInBounds_toArray, List.set_cons_zero, List.set_cons_succ, List.getElem_toArray, List.getElem_cons_zero, List.getElem_cons_succ]
    refine wpAny_take (i := 12) (v := undef) rfl (by kernel_rfl) (by kernel_rfl) (by kernel_rfl) (fun _ _ _ h => h) (Or.inr ⟨by rfl, rfl⟩) ?_
    try simp only [Act.put, List.setIfInBounds_toArray, List.set_cons_zero, List.set_cons_succ, List.getElem_toArray, List.getElem_cons_zero, List.getElem_cons_succ]
    refine wpAny_take (i := 13) (v := undef) rfl (by kernel_rfl) (by kernel_rfl) (by kernel_rfl) (fun _ _ _ h => h) (Or.inr ⟨by rfl, rfl⟩) ?_
    try simp only [Act.put, List.setIfInBounds_toArray, List.set_cons_zero, List.set_cons_succ, List.getElem_toArray, List.getElem_cons_zero, List.getElem_cons_succ]
    refine wpAny_take (i := 14) (v := undef) rfl (by kernel_rfl) (by kernel_rfl) (by kernel_rfl) (fun _ _ _ h => h) (Or.inr ⟨by rfl, rfl⟩) ?_
    try simp only [Act.put, List.setIfInBounds_toArray, List.set_cons_zero, List.set_cons_succ, List.getElem_toArray, List.getElem_cons_zero, List.getElem_cons_succ]
    refine wpAny_take (i := 15) (v := undef) rfl (by kernel_rfl) (by kernel_rfl) (by kernel_rfl) (fun _ _ _ h => h) (Or.inr ⟨by rfl, rfl⟩) ?_
    try simp only [Act.put, List.setIfInBounds_toArray, List.set_cons_zero, List.set_cons_succ, List.getElem_toArray, List.getElem_cons_zero, List.getElem_cons_succ]
    refine wpAny_take (i := 16) (v := ?_) rfl (by kernel_rfl) (by kernel_rfl) (by kernel_rfl) (fun _ _ _ h => h) (Or.inl ⟨by rfl, ?_⟩) ?_
    rotate_left 1
    · (intro w; go_simp; try with_reducible rfl)
    try simp only [Act.put, List.setIfInBounds_toArray, List.set_cons_zero, List.set_cons_succ, List.getElem_toArray, List.getElem_cons_zero, List.getElem_cons_succ]
    refine wpAny_take (i := 17) (v := ?_) rfl (by kernel_rfl) (by kernel_rfl) (by kernel_rfl) (fun _ _ _ h => h) (Or.inl ⟨by rfl, ?_⟩) ?_
    rotate_left 1
    · (intro w; go_simp; try with_reducible rfl)
    try simp only [Act.put, List.setIfInBounds_toArray, List.set_cons_zero, List.set_cons_succ, List.getElem_toArray, List.getElem_cons_zero, List.getElem_cons_succ]
    refine wpAny_done (by kernel_rfl) ?_ _
    go_wp2
    rw [← hW1]
    clear hW1 d1 d2 d3 d4 c1 c2 c3 c4
    go_region_held3 (fun w' => w'.cell? ⟨w.heap.size, 0, none⟩ = some (.string s) ∧ w'.cell? ⟨w.heap.size, 1, none⟩ = some (.int .i64 (jx : Int)) ∧ w'.cell? ⟨w.heap.size, 2, none⟩ = some (.int .i64 b) ∧ w'.cell? ⟨w.heap.size, 3, none⟩ = some (.int .i64 v) ∧
        w'.cell? ⟨b0, o0 + jx * 4, none⟩ = some (.string ms) ∧ w'.cell? ⟨b0, o0 + jx * 4 + 1, none⟩ = some (.int .i64 ma) ∧ w'.cell? ⟨b0, o0 + jx * 4 + 2, none⟩ = some (.int .i64 mb) ∧ w'.cell? ⟨b0, o0 + jx * 4 + 3, none⟩ = some (.int .i64 mv))
      (first | exact ⟨n0, n1, n2, n3, e1, e2, e3, e4⟩ | exact ⟨a0, a1, a2, a3, f1, f2, f3, f4⟩ | exact ⟨p0, p1, p2, p3, p4, p5, p6, p7⟩ | exact ⟨m0, m1, m2, m3, m4, m5, m6, m7⟩ | go_keep)
      (first
        | (go_at_call 128; go_loud (with_reducible refine (hH.out _ ?_).mono ?_); go_loud (exact hKB.out); go_loud (rintro e w' ⟨rfl, rfl⟩))
        | (go_at_call 130; go_loud (with_reducible refine (hCW.out _).mono ?_); go_loud (rintro e w4 ⟨WA, wc, rfl, hWo, hb4⟩; have hWi := hWo.rs.more (L' := 0) (B' := w4.heap.size) (Nat.zero_le _) (Nat.le_refl _); have m0 := (hb4.cell zA0).trans a0; have m1 := (hb4.cell zA0).trans a1; have m2 := (hb4.cell zA0).trans a2; have m3 := (hb4.cell zA0).trans a3; have m4 := (hb4.cell zAb).trans f1; have m5 := (hb4.cell zAb).trans f2; have m6 := (hb4.cell zAb).trans f3; have m7 := (hb4.cell zAb).trans f4; have z40 := Nat.lt_of_lt_of_le zA0 hb4.size; have z4b := Nat.lt_of_lt_of_le zAb hb4.size))
        | (go_at_call 129; go_loud (with_reducible refine (hC.out _ _ _ ?_).mono ?_); go_loud (exact hWi); go_loud (rintro e w5 ⟨rfl, hb5⟩; have p0 := (hb5.cell z40).trans m0; have p1 := (hb5.cell z40).trans m1; have p2 := (hb5.cell z40).trans m2; have p3 := (hb5.cell z40).trans m3; have p4 := (hb5.cell z4b).trans m4; have p5 := (hb5.cell z4b).trans m5; have p6 := (hb5.cell z4b).trans m6; have p7 := (hb5.cell z4b).trans m7)))
    have hBw3 : Below w.heap.size w (W1.alloc (.cells #[.string ⟨#[97,100,100]⟩, .string ⟨#[97,110,100]⟩, .string ⟨#[120,111,114]⟩] 9)) := hBe1.out.trans (hAl.mono (by omega))
    have hBw4 : Below w.heap.size w w4 := hBw3.drew.drew.trans (hb4.mono (by show w.heap.size ≤ (W1.alloc (.cells #[.string ⟨#[97,100,100]⟩, .string ⟨#[97,110,100]⟩, .string ⟨#[120,111,114]⟩] 9)).heap.size; omega))
    have hBw5 := Lib.hid (hBw4.trans (hb5.mono (by have := z40; omega)))
    clear hb4 hb5 hWo hWi hBw3 hBw4 m0 m1 m2 m3 m4 m5 m6 m7 p0 p1 p2 p3 p4 p5 p6 p7 a0 a1 a2 a3 f1 f2 f3 f4 n0 n1 n2 n3 e1 e2 e3 e4 hAl
    go_wp2
    go_ret3
    exact TileM.no rfl rfl rfl hBw5.out
  · rw [if_pos rfl]
    rw [hk2] at hC
    clear hk2
    obtain ⟨W1, hW1⟩ : ∃ W1, W1 = w.alloc (.cells #[.string s, .int .i64 (jx : Int), .int .i64 b, .int .i64 v] 65) := ⟨_, rfl⟩
    have hn1 : CB 65 W1 w.heap.size [.string s, .int .i64 (jx : Int), .int .i64 b, .int .i64 v] := by rw [hW1]; exact heap_alloc_new w _
    rw [← hW1] at hKB
    have z1 : W1.heap.size = w.heap.size + 1 := by rw [hW1]; exact World.size_alloc _ _
    have hBe1 := Lib.hid (show Below w.heap.size w W1 by rw [hW1]; exact (hB1 _).out)
    have e1 := (hBe1.out.cell (p := ⟨b0, o0 + jx * 4, none⟩) hbw).trans d1
    have e2 := (hBe1.out.cell (p := ⟨b0, o0 + jx * 4 + 1, none⟩) hbw).trans d2
    have e3 := (hBe1.out.cell (p := ⟨b0, o0 + jx * 4 + 2, none⟩) hbw).trans d3
    have e4 := (hBe1.out.cell (p := ⟨b0, o0 + jx * 4 + 3, none⟩) hbw).trans d4
    have hAl := (Below.refl W1.heap.size W1).alloc (Nat.le_refl _) (.cells #[.string ⟨#[97,100,100]⟩, .string ⟨#[97,110,100]⟩, .string ⟨#[120,111,114]⟩] 9)
    have zz0 : w.heap.size < W1.heap.size := by omega
    have zzb : b0 < W1.heap.size := by omega
    have zS := World.size_alloc W1 (.cells #[.string ⟨#[97,100,100]⟩, .string ⟨#[97,110,100]⟩, .string ⟨#[120,111,114]⟩] 9)
    have zA0 : w.heap.size < (W1.alloc (.cells #[.string ⟨#[97,100,100]⟩, .string ⟨#[97,110,100]⟩, .string ⟨#[120,111,114]⟩] 9)).heap.size := by omega
    have zAb : b0 < (W1.alloc (.cells #[.string ⟨#[97,100,100]⟩, .string ⟨#[97,110,100]⟩, .string ⟨#[120,111,114]⟩] 9)).heap.size := by omega
    have hn2 := CB.below hn1 hAl zz0
    have n0 := hn1.cell 0; have n1 := hn1.cell 1; have n2 := hn1.cell 2; have n3 := hn1.cell 3
    have a0 := hn2.cell 0; have a1 := hn2.cell 1; have a2 := hn2.cell 2; have a3 := hn2.cell 3
    simp only [List.getElem?_cons_zero, List.getElem?_cons_succ] at n0 n1 n2 n3 a0 a1 a2 a3
    have f1 := (hAl.cell (p := ⟨b0, o0 + jx * 4, none⟩) zzb).trans e1
    have f2 := (hAl.cell (p := ⟨b0, o0 + jx * 4 + 1, none⟩) zzb).trans e2
    have f3 := (hAl.cell (p := ⟨b0, o0 + jx * 4 + 2, none⟩) zzb).trans e3
    have f4 := (hAl.cell (p := ⟨b0, o0 + jx * 4 + 3, none⟩) zzb).trans e4
    clear hn1 hn2
    go_enter Try.func73, Try.ntmps73
    go_wp2
    refine wp_region_any (by kernel_rfl) ?_
    try (change wpAny _ _ _ _ _ _ _ (World.drew _))
    refine wpAny_take (i := 0) (v := ?_) rfl (by kernel_rfl) (by kernel_rfl) (by kernel_rfl) (fun _ _ _ h => h) (Or.inl ⟨by rfl, ?_⟩) ?_
    rotate_left 1
    · (intro w; go_simp; try with_reducible rfl)
    try simp only [Act.put, List.setIfInBounds_toArray, List.set_cons_zero, List.set_cons_succ, List.getElem_toArray, List.getElem_cons_zero, List.getElem_cons_succ]
    refine wpAny_take (i := 1) (v := ?_) rfl (by kernel_rfl) (by kernel_rfl) (by kernel_rfl) (fun _ _ _ h => h) (Or.inl ⟨by rfl, ?_⟩) ?_
    rotate_left 1
    · (intro w; go_simp; try with_reducible rfl)
    try simp only [Act.put, List.setIfInBounds_toArray, List.set_cons_zero, List.set_cons_succ, List.getElem_toArray, List.getElem_cons_zero, List.getElem_cons_succ]
    refine wpAny_take (i := 2) (v := ?_) rfl (by kernel_rfl) (by kernel_rfl) (by kernel_rfl) (fun _ _ _ h => h) (Or.inl ⟨by rfl, ?_⟩) ?_
    rotate_left 1
    · (intro w; go_simp; try with_reducible rfl)
    try simp only [Act.put, List.setIfInBounds_toArray, List.set_cons_zero, List.set_cons_succ, List.getElem_toArray, List.getElem_cons_zero, List.getElem_cons_succ]
    refine wpAny_take (i := 4) (v := undef) rfl (by kernel_rfl) (by kernel_rfl) (by kernel_rfl) (fun _ _ _ h => h) (Or.inr ⟨by rfl, rfl⟩) ?_
    try simp only [Act.put, List.setIfInBounds_toArray, List.set_cons_zero, List.set_cons_succ, List.getElem_toArray, List.getElem_cons_zero, List.getElem_cons_succ]
    refine wpAny_take (i := 5) (v := undef) rfl (by kernel_rfl) (by kernel_rfl) (by kernel_rfl) (fun _ _ _ h => h) (Or.inr ⟨by rfl, rfl⟩) ?_
    try simp only [Act.put, List.setIfInBounds_toArray, List.set_cons_zero, List.set_cons_succ, List.getElem_toArray, List.getElem_cons_zero, List.getElem_cons_succ]
    refine wpAny_ready (rs := [3]) (by kernel_rfl) (by simp) ?_
    refine AllReady.cons rfl (fun K hK => ?_) (AllReady.nil)
    try simp only [List.setIfInBounds_toArray, List.set_cons_zero, List.set_cons_succ, List.getElem_toArray, List.getElem_cons_zero, List.getElem_cons_succ]
    go_simp
    refine hK _ _ ?_
    clear hK K
    refine wpAny_take (i := 6) (v := undef) rfl (by kernel_rfl) (by kernel_rfl) (by kernel_rfl) (fun _ _ _ h => h) (Or.inr ⟨by rfl, rfl⟩) ?_
    try simp only [Act.put, List.setIfInBounds_toArray, List.set_cons_zero, List.set_cons_succ, List.getElem_toArray, List.getElem_cons_zero, List.getElem_cons_succ]
    refine wpAny_take (i := 7) (v := ?_) rfl (by kernel_rfl) (by kernel_rfl) (by kernel_rfl) (fun _ _ _ h => h) (Or.inl ⟨by rfl, ?_⟩) ?_
    rotate_left 1
    · (intro w; go_simp; try with_reducible rfl)
    try simp only [Act.put, List.setIfInBounds_toArray, List.set_cons_zero, List.set_cons_succ, List.getElem_toArray, List.getElem_cons_zero, List.getElem_cons_succ]
    refine wpAny_take (i := 8) (v := ?_) rfl (by kernel_rfl) (by kernel_rfl) (by kernel_rfl) (fun _ _ _ h => h) (Or.inl ⟨by rfl, ?_⟩) ?_
    rotate_left 1
    · (intro w; go_simp; try with_reducible rfl)
    try simp only [Act.put, List.setIfInBounds_toArray, List.set_cons_zero, List.set_cons_succ, List.getElem_toArray, List.getElem_cons_zero, List.getElem_cons_succ]
    refine wpAny_take (i := 9) (v := undef) rfl (by kernel_rfl) (by kernel_rfl) (by kernel_rfl) (fun _ _ _ h => h) (Or.inr ⟨by rfl, rfl⟩) ?_
    try simp only [Act.put, List.setIfInBounds_toArray, List.set_cons_zero, List.set_cons_succ, List.getElem_toArray, List.getElem_cons_zero, List.getElem_cons_succ]
    refine wpAny_take (i := 10) (v := undef) rfl (by kernel_rfl) (by kernel_rfl) (by kernel_rfl) (fun _ _ _ h => h) (Or.inr ⟨by rfl, rfl⟩) ?_
    try simp only [Act.put, List.setIfInBounds_toArray, List.set_cons_zero, List.set_cons_succ, List.getElem_toArray, List.getElem_cons_zero, List.getElem_cons_succ]
    refine wpAny_take (i := 11) (v := undef) rfl (by kernel_rfl) (by kernel_rfl) (by kernel_rfl) (fun _ _ _ h => h) (Or.inr ⟨by rfl, rfl⟩) ?_
    try simp only [Act.put, List.setIfInBounds_toArray, List.set_cons_zero, List.set_cons_succ, List.getElem_toArray, List.getElem_cons_zero, List.getElem_cons_succ]
    refine wpAny_take (i := 12) (v := undef) rfl (by kernel_rfl) (by kernel_rfl) (by kernel_rfl) (fun _ _ _ h => h) (Or.inr ⟨by rfl, rfl⟩) ?_
    try simp only [Act.put, List.setIfInBounds_toArray, List.set_cons_zero, List.set_cons_succ, List.getElem_toArray, List.getElem_cons_zero, List.getElem_cons_succ]
    refine wpAny_take (i := 13) (v := undef) rfl (by kernel_rfl) (by kernel_rfl) (by kernel_rfl) (fun _ _ _ h => h) (Or.inr ⟨by rfl, rfl⟩) ?_
    try simp only [Act.put, List.setIfInBounds_toArray, List.set_cons_zero, List.set_cons_succ, List.getElem_toArray, List.getElem_cons_zero, List.getElem_cons_succ]
    refine wpAny_take (i := 14) (v := undef) rfl (by kernel_rfl) (by kernel_rfl) (by kernel_rfl) (fun _ _ _ h => h) (Or.inr ⟨by rfl, rfl⟩) ?_
    try simp only [Act.put, List.setIfInBounds_toArray, List.set_cons_zero, List.set_cons_succ, List.getElem_toArray, List.getElem_cons_zero, List.getElem_cons_succ]
    refine wpAny_take (i := 15) (v := undef) rfl (by kernel_rfl) (by kernel_rfl) (by kernel_rfl) (fun _ _ _ h => h) (Or.inr ⟨by rfl, rfl⟩) ?_
    try simp only [Act.put, List.setIfInBounds_toArray, List.set_cons_zero, List.set_cons_succ, List.getElem_toArray, List.getElem_cons_zero, List.getElem_cons_succ]
    refine wpAny_take (i := 16) (v := ?_) rfl (by kernel_rfl) (by kernel_rfl) (by kernel_rfl) (fun _ _ _ h => h) (Or.inl ⟨by rfl, ?_⟩) ?_
    rotate_left 1
    · (intro w; go_simp; try with_reducible rfl)
    try simp only [Act.put, List.setIfInBounds_toArray, List.set_cons_zero, List.set_cons_succ, List.getElem_toArray, List.getElem_cons_zero, List.getElem_cons_succ]
    refine wpAny_take (i := 17) (v := ?_) rfl (by kernel_rfl) (by kernel_rfl) (by kernel_rfl) (fun _ _ _ h => h) (Or.inl ⟨by rfl, ?_⟩) ?_
    rotate_left 1
    · (intro w; go_simp; try with_reducible rfl)
    try simp only [Act.put, List.setIfInBounds_toArray, List.set_cons_zero, List.set_cons_succ, List.getElem_toArray, List.getElem_cons_zero, List.getElem_cons_succ]
    refine wpAny_done (by kernel_rfl) ?_ _
    go_wp2
    rw [← hW1]
    clear hW1 d1 d2 d3 d4 c1 c2 c3 c4
    go_region_held3 (fun w' => w'.cell? ⟨w.heap.size, 0, none⟩ = some (.string s) ∧ w'.cell? ⟨w.heap.size, 1, none⟩ = some (.int .i64 (jx : Int)) ∧ w'.cell? ⟨w.heap.size, 2, none⟩ = some (.int .i64 b) ∧ w'.cell? ⟨w.heap.size, 3, none⟩ = some (.int .i64 v) ∧
        w'.cell? ⟨b0, o0 + jx * 4, none⟩ = some (.string ms) ∧ w'.cell? ⟨b0, o0 + jx * 4 + 1, none⟩ = some (.int .i64 ma) ∧ w'.cell? ⟨b0, o0 + jx * 4 + 2, none⟩ = some (.int .i64 mb) ∧ w'.cell? ⟨b0, o0 + jx * 4 + 3, none⟩ = some (.int .i64 mv))
      (first | exact ⟨n0, n1, n2, n3, e1, e2, e3, e4⟩ | exact ⟨a0, a1, a2, a3, f1, f2, f3, f4⟩ | exact ⟨p0, p1, p2, p3, p4, p5, p6, p7⟩ | exact ⟨m0, m1, m2, m3, m4, m5, m6, m7⟩ | go_keep)
      (first
        | (go_at_call 128; go_loud (with_reducible refine (hH.out _ ?_).mono ?_); go_loud (exact hKB.out); go_loud (rintro e w' ⟨rfl, rfl⟩))
        | (go_at_call 130; go_loud (with_reducible refine (hCW.out _).mono ?_); go_loud (rintro e w4 ⟨WA, wc, rfl, hWo, hb4⟩; have hWi := hWo.rs.more (L' := 0) (B' := w4.heap.size) (Nat.zero_le _) (Nat.le_refl _); have m0 := (hb4.cell zA0).trans a0; have m1 := (hb4.cell zA0).trans a1; have m2 := (hb4.cell zA0).trans a2; have m3 := (hb4.cell zA0).trans a3; have m4 := (hb4.cell zAb).trans f1; have m5 := (hb4.cell zAb).trans f2; have m6 := (hb4.cell zAb).trans f3; have m7 := (hb4.cell zAb).trans f4; have z40 := Nat.lt_of_lt_of_le zA0 hb4.size; have z4b := Nat.lt_of_lt_of_le zAb hb4.size))
        | (go_at_call 129; go_loud (with_reducible refine (hC.out _ _ _ ?_).mono ?_); go_loud (exact hWi); go_loud (rintro e w5 ⟨rfl, hb5⟩; have p0 := (hb5.cell z40).trans m0; have p1 := (hb5.cell z40).trans m1; have p2 := (hb5.cell z40).trans m2; have p3 := (hb5.cell z40).trans m3; have p4 := (hb5.cell z4b).trans m4; have p5 := (hb5.cell z4b).trans m5; have p6 := (hb5.cell z4b).trans m6; have p7 := (hb5.cell z4b).trans m7)))
    have hBw3 : Below w.heap.size w (W1.alloc (.cells #[.string ⟨#[97,100,100]⟩, .string ⟨#[97,110,100]⟩, .string ⟨#[120,111,114]⟩] 9)) := hBe1.out.trans (hAl.mono (by omega))
    have hBw4 : Below w.heap.size w w4 := hBw3.drew.drew.trans (hb4.mono (by show w.heap.size ≤ (W1.alloc (.cells #[.string ⟨#[97,100,100]⟩, .string ⟨#[97,110,100]⟩, .string ⟨#[120,111,114]⟩] 9)).heap.size; omega))
    have hBw5 := Lib.hid (hBw4.trans (hb5.mono (by have := z40; omega)))
    have hw5 : w.heap.size < w5.heap.size := Nat.lt_of_lt_of_le z40 hb5.size
    have hL5 : w.heap.size ≤ w5.drew.heap.size := by show w.heap.size ≤ w5.heap.size; omega
    have t1 := Lib.hid (two_lits (W := w5.drew) (L := w.heap.size) b (jx : Int) hL5)
    have t2 := Lib.hid (two_lits (W := w5.drew) (L := w.heap.size) (jx : Int) b hL5)
    clear hb4 hb5 hWo hWi hBw3 hBw4 m0 m1 m2 m3 m4 m5 m6 m7 p4 p5 p6 p7 a0 a1 a2 a3 f1 f2 f3 f4 n0 n1 n2 n3 e1 e2 e3 e4 hAl
    go_wp2
    go_region
    all_goals go_wp2
    all_goals go_ret3
    all_goals first | exact TileM.yes rfl rfl rfl rfl rfl t1.out.1 t1.out.2.1 (hBw5.out.drew.trans (t1.out.2.2.mono hL5)) | exact TileM.yes rfl rfl rfl rfl rfl t2.out.2.1 t2.out.1 (hBw5.out.drew.trans (t2.out.2.2.mono hL5))
end Go.Proofs.Ytgcbfiamhpfkhaa
