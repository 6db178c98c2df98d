import Derived.Test.YtaaloepoegehkaaEN
import Derived.Test.YtaaloepoegehkaaEB
import Derived.Test.YtaaloepoegehkaaB2
import Derived.WalkKit
import Derived.WalkSpells
import Derived.WalkLawsBesides
import Derived.BigRegion
import Derived.BigQuiet
import Derived.Lib.Hide
/- What cvTile of the model hands back. -/
namespace Go.Proofs.Ytaaloepoegehkaa
open Go.RowKit
set_option linter.unusedVariables false
set_option linter.unusedSimpArgs false

def TileM (w : World) (o : Option Ti) (e : Ending) (w' : World) : Prop :=
  ∃ PA pc QA qc, e = .returned (.tuple #[.slice PA ((o.map Ti.ps).getD []).length pc, .slice QA ((o.map Ti.ins).getD []).length qc, .bool o.isSome]) ∧
    OW w' w.heap.size w'.heap.size (.slice PA ((o.map Ti.ps).getD []).length pc) ((o.map Ti.ps).getD []) ∧ OW w' w.heap.size w'.heap.size (.slice QA ((o.map Ti.ins).getD []).length qc) ((o.map Ti.ins).getD []) ∧ Below w.heap.size w w'
theorem hasS_new (ss : List ByteArray) (hl : ss.length ≤ 1000) (W : World) (g : Nat) (hg : W.heap.size = g) (cs : Array Value) (hcs : cs = (ss.flatMap encS).toArray) (t : TypeId) (n c : Nat) (hn : n = ss.length) (s : ByteArray) :
    Calls Try.prog 177 #[.slice (some ⟨g, 0, none⟩) n c, .string s] (W.alloc (.cells cs t)) fun e w' => e = .returned (.bool (hasS ss s)) ∧ W.alloc (.cells cs t) = w' := by
  subst hg; subst hcs; subst hn
  refine l1HasS_any W.heap.size 0 c ss s _ hl (fun k h => ?_)
  have hk : KB encS t (W.alloc (.cells (ss.flatMap encS).toArray t)) W.heap.size ss := heap_alloc_new W _
  have := hk.cell (k := 1) (fun _ => rfl) k h 0 (.string ss[k]) rfl
  simpa using this
theorem hasS_at (ss : List ByteArray) (hl : ss.length ≤ 1000) (W : World) (g : Nat) (t : TypeId) (h : KB encS t W g ss) (n c : Nat) (hn : n = ss.length) (s : ByteArray) :
    Calls Try.prog 177 #[.slice (some ⟨g, 0, none⟩) n c, .string s] W fun e w' => e = .returned (.bool (hasS ss s)) ∧ W = w' := by
  subst hn
  refine l1HasS_any g 0 c ss s _ hl (fun k hk => ?_)
  have := h.cell (k := 1) (fun _ => rfl) k hk 0 (.string ss[k]) rfl
  simpa using this
theorem kbS {w : World} (o : Obj) (ss : List ByteArray) (cs : Array Value) (hcs : cs = (ss.flatMap encS).toArray) (t : TypeId) : KB encS t ((w.alloc o).alloc (.cells cs t)) (w.heap.size + 1) ss := by
  subst hcs
  have := heap_alloc_new (w.alloc o) (.cells (ss.flatMap encS).toArray t)
  rw [World.size_alloc] at this
  exact this
theorem hasS_mul (s : ByteArray) : hasS [oMul] s = (s.toList == [109,117,108]) := by
  have e : oMul.toList = [109,117,108] := by decide +kernel
  unfold hasS
  simp only [List.any_cons, List.any_nil, Bool.or_false, e]
  rw [Bool.eq_iff_iff, beq_iff_eq, beq_iff_eq]; exact ⟨Eq.symm, Eq.symm⟩
theorem takes_kon {f : Fo} (hf : f.ws ≠ []) (n : Nd) : takes f n = kon f.ws n := by
  unfold takes kon
  cases h : f.ws with
  | nil => exact absurd h hf
  | cons a l => simp
theorem mt_fo (es : List Nd) (n : Nd) (j : Nat) (f : Fo) (hj : fos[j]? = some f) : mt es n (j + 4) = foO es n f := by
  show (fos[j]?).bind (foO es n) = _
  rw [hj]; rfl
theorem belowDrewN {B : Nat} {a w : World} (h : Below B a w) (n : Nat) : Below B a (w.drewN n) := ⟨h.os, h.tape, h.output, h.size, h.block⟩
theorem ownLit {w : World} {g L B : Nat} {cs : Array Value} (xs : List Int) (hc : cs = intCells xs) (hg : w.heap.size = g) (hl : xs.length ≤ 1000) (hL : L ≤ g) (hB : g < B) : OW (w.alloc (.cells cs 3)) L B (.slice (some ⟨g, 0, none⟩) xs.length xs.length) xs := by
  subst hg; subst hc
  exact OW.ofIB (show IB (w.alloc (.cells (intCells xs) 3)) w.heap.size 3 xs from heap_alloc_new w _) (by omega) hL hB
theorem two_lits {W : World} {L : Nat} (x y : Int) (hL : L ≤ W.heap.size) :
    OW ((W.alloc (.cells #[.int .i64 x] 3)).alloc (.cells #[.int .i64 y] 3)) L ((W.alloc (.cells #[.int .i64 x] 3)).alloc (.cells #[.int .i64 y] 3)).heap.size (.slice (some ⟨W.heap.size, 0, none⟩) 1 1) [x] ∧
    OW ((W.alloc (.cells #[.int .i64 x] 3)).alloc (.cells #[.int .i64 y] 3)) L ((W.alloc (.cells #[.int .i64 x] 3)).alloc (.cells #[.int .i64 y] 3)).heap.size (.slice (some ⟨W.heap.size + 1, 0, none⟩) 1 1) [y] ∧
    Below W.heap.size W ((W.alloc (.cells #[.int .i64 x] 3)).alloc (.cells #[.int .i64 y] 3)) := by
  have z1 := World.size_alloc W (.cells #[.int .i64 x] 3)
  have z2 := World.size_alloc (W.alloc (.cells #[.int .i64 x] 3)) (.cells #[.int .i64 y] 3)
  have b2 := (Below.refl _ (W.alloc (.cells #[.int .i64 x] 3))).alloc (Nat.le_refl _) (.cells #[.int .i64 y] 3)
  refine ⟨((ownLit (g := W.heap.size) (L := L) (B := W.heap.size + 1) [x] rfl rfl (by simp) hL (by omega)).below b2 (by omega)).more (by omega), ownLit [y] rfl z1 (by simp) (by omega) (by omega), ?_⟩
  exact ((Below.refl _ W).alloc (Nat.le_refl _) _).alloc (by omega) _
theorem TileM.yes {w w' : World} {o : Option Ti} {ps ins : List Int} {PA QA : Option Addr} {pc qc m n : Nat} (hp : (o.map Ti.ps).getD [] = ps) (hi : (o.map Ti.ins).getD [] = ins) (hs : o.isSome = true) (hm : m = ps.length) (hn : n = ins.length)
    (h1 : OW w' w.heap.size w'.heap.size (.slice PA m pc) ps) (h2 : OW w' w.heap.size w'.heap.size (.slice QA n qc) ins) (hb : Below w.heap.size w w') :
    TileM w o (.returned (.tuple #[.slice PA m pc, .slice QA n qc, .bool true])) w' := by
  subst hm hn
  unfold TileM
  rw [hp, hi, hs]
  exact ⟨_, _, _, _, rfl, h1, h2, hb⟩
theorem TileM.no {w w' : World} {b : Bool} {o : Option Ti} (hp : (o.map Ti.ps).getD [] = []) (hi : (o.map Ti.ins).getD [] = []) (hs : o.isSome = b) (hb : Below w.heap.size w w') :
    TileM w o (.returned (.tuple #[.slice none 0 0, .slice none 0 0, .bool b])) w' := by
  unfold TileM
  rw [hp, hi, hs]
  exact ⟨none, 0, none, 0, rfl, OW.nil _ _ _, OW.nil _ _ _, hb⟩
end Go.Proofs.Ytaaloepoegehkaa
