/- Texts of this proof, one behind the other: EO, EP0. -/
import Derived.Test.YtgcbfiamhpfkhaaEN
import Derived.Test.YtgcbfiamhpfkhaaEB
import Derived.Test.YtgcbfiamhpfkhaaB2
import Derived.WalkKit
import Derived.WalkSpells
import Derived.WalkLawsBesides
import Derived.BigRegion
import Derived.BigQuiet
import Derived.Lib.Hide
/- What cvTile of the model hands back. -/
namespace Go.Proofs.Ytgcbfiamhpfkhaa
open Go.RowKit
set_option linter.unusedVariables false
set_option linter.unusedSimpArgs false

def TileM (w : World) (o : Option Ti) (e : Ending) (w' : World) : Prop :=
  ∃ PA pc QA qc, e = .returned (.tuple #[.slice PA ((o.map Ti.ps).getD []).length pc, .slice QA ((o.map Ti.ins).getD []).length qc, .bool o.isSome]) ∧
    OW w' w.heap.size w'.heap.size (.slice PA ((o.map Ti.ps).getD []).length pc) ((o.map Ti.ps).getD []) ∧ OW w' w.heap.size w'.heap.size (.slice QA ((o.map Ti.ins).getD []).length qc) ((o.map Ti.ins).getD []) ∧ Below w.heap.size w w'
theorem hasS_new (ss : List ByteArray) (hl : ss.length ≤ 1000) (W : World) (g : Nat) (hg : W.heap.size = g) (cs : Array Value) (hcs : cs = (ss.flatMap encS).toArray) (t : TypeId) (n c : Nat) (hn : n = ss.length) (s : ByteArray) :
    Calls Try.prog 128 #[.slice (some ⟨g, 0, none⟩) n c, .string s] (W.alloc (.cells cs t)) fun e w' => e = .returned (.bool (hasS ss s)) ∧ W.alloc (.cells cs t) = w' := by
  subst hg; subst hcs; subst hn
  refine l1HasS_any W.heap.size 0 c ss s _ hl (fun k h => ?_)
  have hk : KB encS t (W.alloc (.cells (ss.flatMap encS).toArray t)) W.heap.size ss := heap_alloc_new W _
  have := hk.cell (k := 1) (fun _ => rfl) k h 0 (.string ss[k]) rfl
  simpa using this
theorem hasS_at (ss : List ByteArray) (hl : ss.length ≤ 1000) (W : World) (g : Nat) (t : TypeId) (h : KB encS t W g ss) (n c : Nat) (hn : n = ss.length) (s : ByteArray) :
    Calls Try.prog 128 #[.slice (some ⟨g, 0, none⟩) n c, .string s] W fun e w' => e = .returned (.bool (hasS ss s)) ∧ W = w' := by
  subst hn
  refine l1HasS_any g 0 c ss s _ hl (fun k hk => ?_)
  have := h.cell (k := 1) (fun _ => rfl) k hk 0 (.string ss[k]) rfl
  simpa using this
theorem kbS {w : World} (o : Obj) (ss : List ByteArray) (cs : Array Value) (hcs : cs = (ss.flatMap encS).toArray) (t : TypeId) : KB encS t ((w.alloc o).alloc (.cells cs t)) (w.heap.size + 1) ss := by
  subst hcs
  have := heap_alloc_new (w.alloc o) (.cells (ss.flatMap encS).toArray t)
  rw [World.size_alloc] at this
  exact this
theorem hasS_mul (s : ByteArray) : hasS [oMul] s = (s.toList == [109,117,108]) := by
  have e : oMul.toList = [109,117,108] := by decide +kernel
  unfold hasS
  simp only [List.any_cons, List.any_nil, Bool.or_false, e]
  rw [Bool.eq_iff_iff, beq_iff_eq, beq_iff_eq]; exact ⟨Eq.symm, Eq.symm⟩
theorem takes_kon {f : Fo} (hf : f.ws ≠ []) (n : Nd) : takes f n = kon f.ws n := by
  unfold takes kon
  cases h : f.ws with
  | nil => exact absurd h hf
  | cons a l => simp
theorem mt_fo (es : List Nd) (n : Nd) (j : Nat) (f : Fo) (hj : fos[j]? = some f) : mt es n (j + 4) = foO es n f := by
  show (fos[j]?).bind (foO es n) = _
  rw [hj]; rfl
theorem belowDrewN {B : Nat} {a w : World} (h : Below B a w) (n : Nat) : Below B a (w.drewN n) := ⟨h.os, h.tape, h.output, h.size, h.block⟩
theorem ownLit {w : World} {g L B : Nat} {cs : Array Value} (xs : List Int) (hc : cs = intCells xs) (hg : w.heap.size = g) (hl : xs.length ≤ 1000) (hL : L ≤ g) (hB : g < B) : OW (w.alloc (.cells cs 3)) L B (.slice (some ⟨g, 0, none⟩) xs.length xs.length) xs := by
  subst hg; subst hc
  exact OW.ofIB (show IB (w.alloc (.cells (intCells xs) 3)) w.heap.size 3 xs from heap_alloc_new w _) (by omega) hL hB
theorem two_lits {W : World} {L : Nat} (x y : Int) (hL : L ≤ W.heap.size) :
    OW ((W.alloc (.cells #[.int .i64 x] 3)).alloc (.cells #[.int .i64 y] 3)) L ((W.alloc (.cells #[.int .i64 x] 3)).alloc (.cells #[.int .i64 y] 3)).heap.size (.slice (some ⟨W.heap.size, 0, none⟩) 1 1) [x] ∧
    OW ((W.alloc (.cells #[.int .i64 x] 3)).alloc (.cells #[.int .i64 y] 3)) L ((W.alloc (.cells #[.int .i64 x] 3)).alloc (.cells #[.int .i64 y] 3)).heap.size (.slice (some ⟨W.heap.size + 1, 0, none⟩) 1 1) [y] ∧
    Below W.heap.size W ((W.alloc (.cells #[.int .i64 x] 3)).alloc (.cells #[.int .i64 y] 3)) := by
  have z1 := World.size_alloc W (.cells #[.int .i64 x] 3)
  have z2 := World.size_alloc (W.alloc (.cells #[.int .i64 x] 3)) (.cells #[.int .i64 y] 3)
  have b2 := (Below.refl _ (W.alloc (.cells #[.int .i64 x] 3))).alloc (Nat.le_refl _) (.cells #[.int .i64 y] 3)
  refine ⟨((ownLit (g := W.heap.size) (L := L) (B := W.heap.size + 1) [x] rfl rfl (by simp) hL (by omega)).below b2 (by omega)).more (by omega), ownLit [y] rfl z1 (by simp) (by omega) (by omega), ?_⟩
  exact ((Below.refl _ W).alloc (Nat.le_refl _) _).alloc (by omega) _
theorem TileM.yes {w w' : World} {o : Option Ti} {ps ins : List Int} {PA QA : Option Addr} {pc qc m n : Nat} (hp : (o.map Ti.ps).getD [] = ps) (hi : (o.map Ti.ins).getD [] = ins) (hs : o.isSome = true) (hm : m = ps.length) (hn : n = ins.length)
    (h1 : OW w' w.heap.size w'.heap.size (.slice PA m pc) ps) (h2 : OW w' w.heap.size w'.heap.size (.slice QA n qc) ins) (hb : Below w.heap.size w w') :
    TileM w o (.returned (.tuple #[.slice PA m pc, .slice QA n qc, .bool true])) w' := by
  subst hm hn
  unfold TileM
  rw [hp, hi, hs]
  exact ⟨_, _, _, _, rfl, h1, h2, hb⟩
theorem TileM.no {w w' : World} {b : Bool} {o : Option Ti} (hp : (o.map Ti.ps).getD [] = []) (hi : (o.map Ti.ins).getD [] = []) (hs : o.isSome = b) (hb : Below w.heap.size w w') :
    TileM w o (.returned (.tuple #[.slice none 0 0, .slice none 0 0, .bool b])) w' := by
  unfold TileM
  rw [hp, hi, hs]
  exact ⟨none, 0, none, 0, rfl, OW.nil _ _ _, OW.nil _ _ _, hb⟩
end Go.Proofs.Ytgcbfiamhpfkhaa

/- cvTile at the tile 0. -/
namespace Go.Proofs.Ytgcbfiamhpfkhaa
open Go.RowKit
set_option linter.unusedVariables false
set_option linter.unusedSimpArgs false

set_option maxRecDepth 100000 in
set_option maxHeartbeats 8000000 in
theorem cvTile_0 (L B : Nat) (A : Option Addr) (c : Nat) (es : List Nd) (k : Nat) (hk : k < es.length) (w : World) (hes : NS w L B A es) (hB : B ≤ w.heap.size) :
    Calls Try.prog 73 #[.slice A es.length c, .int .i64 (k : Int), .int .i64 0] w (TileM w (mt es es[k] 0)) := by
  obtain ⟨b0, o0, rfl, ⟨_, hbB⟩, hc⟩ := hes (by omega)
  have hbw : b0 < w.heap.size := by omega
  obtain ⟨c1, c2, c3, c4⟩ := hc k hk
  have hB1 := fun o => Lib.hid ((Below.refl w.heap.size w).alloc (Nat.le_refl _) o)
  clear hc hes hB hbB
  have k1 : (k : Int) < (es.length : Int) := by omega
  have hm : Hid (mt es es[k] 0 = if (es[k].op.toList == [105,110]) = true then some ⟨0, [], [], 0⟩ else none) := rfl
  have hm1 : ((mt es es[k] 0).map Ti.ps).getD [] = [] := by rw [hm.out]; split <;> rfl
  have hm2 : ((mt es es[k] 0).map Ti.ins).getD [] = [] := by rw [hm.out]; split <;> rfl
  have hm3 : (mt es es[k] 0).isSome = (es[k].op.toList == [105,110]) := by rw [hm.out]; cases (es[k].op.toList == [105,110]) <;> rfl
  have H1 := Lib.hid hm1; have H2 := Lib.hid hm2; have H3 := Lib.hid hm3
  clear hm hm1 hm2 hm3
  generalize mt es es[k] 0 = o at *
  generalize es[k] = nd at *
  obtain ⟨s, a, b, v⟩ := nd
  dsimp only at c1 c2 c3 c4 H3
  go_enter Try.func73, Try.ntmps73
  go_wp2
  go_quiet (fail)
  go_wp2
  go_ret3
  exact TileM.no H1.out H2.out H3.out (belowDrewN (hB1 _).out _)
end Go.Proofs.Ytgcbfiamhpfkhaa
