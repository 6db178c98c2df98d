import Derived.Test.YtekjgngkipbefaaTI
import Derived.WalkKit
import Derived.WalkSpells
import Derived.WalkLawsBesides
import Derived.StillTailTactics
import Derived.Deep.QuietTactic
import Derived.BigQuiet
import Derived.Lib.Hide
/- What the methods tell, and the library's functions over lists of ints. -/
namespace Go.Proofs.Ytekjgngkipbefaa
open Go.RowKit
set_option linter.unusedVariables false
set_option maxRecDepth 100000

theorem two_cells (w : World) (a b : Value) (t : TypeId) : (w.alloc (.cells #[a, b] t)).cell? ⟨w.heap.size, 0, none⟩ = some a ∧ (w.alloc (.cells #[a, b] t)).cell? ⟨w.heap.size, 1, none⟩ = some b := by
  have h := fun i => cell_of_row _ w.heap.size i #[a, b] t (0, 0) (heap_alloc_new w _)
  exact ⟨h 0, h 1⟩

set_option maxHeartbeats 2000000 in
theorem differentBits_any (L B L' B' : Nat) (A A' : Option Addr) (c c' n : Nat) (xs ys : List Int) (x0 x1 : Nat) (w : World) (hn : n = 4096) (hl : xs.length = n) (hl' : ys.length = n) (hx : IS w L B A xs) (hy : IS w L' B' A' ys) (hB : B ≤ w.heap.size) (hB' : B' ≤ w.heap.size) (h0 : x0 < 64) (h1 : x1 < 64) :
    Calls Try.prog 114 #[.agg #[.slice A n c, .slice A' n c'], .int .i64 x0, .int .i64 x1] w fun e w' => e = .returned (.int .i64 (bits .xor .i64 (xs.getD (64 * x0 + x1) 0) (ys.getD (64 * x0 + x1) 0))) ∧ Below w.heap.size w w' := by
  have HX := Lib.hid fun (W : World) (hW : Below w.heap.size w W) => at_any L B A c n xs x0 x1 W hn hl (hx.below hW hB) h0 h1
  have HY := Lib.hid fun (W : World) (hW : Below w.heap.size w W) => at_any L' B' A' c' n ys x0 x1 W hn hl' (hy.below hW hB') h0 h1
  have hb := Lib.hid ((Below.refl w.heap.size w).alloc (Nat.le_refl _) (.cells #[.slice A n c, .slice A' n c'] 120))
  clear hx hy hB hB' hl hl' hn
  generalize xs.getD (64 * x0 + x1) 0 = p at *
  generalize ys.getD (64 * x0 + x1) 0 = q at *
  obtain ⟨c0, c1⟩ := two_cells w (.slice A n c) (.slice A' n c') 120
  have hbd := Lib.hid hb.out.drew
  go_enter Try.func114, Try.ntmps114
  go_wp2_with (fail)
  generalize w.alloc (.cells #[.slice A n c, .slice A' n c'] 120) = W0 at *
  go_region_held3 (fun w' => w'.cell? ⟨w.heap.size, 0, none⟩ = some (.slice A n c) ∧ w'.cell? ⟨w.heap.size, 1, none⟩ = some (.slice A' n c'))
    (first | exact ⟨c0, c1⟩ | go_keep)
    ((first
      | (go_at_call 138; (with_reducible refine (HX.out _ hbd.out).mono ?_); rintro e w' ⟨rfl, rfl⟩)
      | (go_at_call 138; (with_reducible refine (HY.out _ hbd.out).mono ?_); rintro e w' ⟨rfl, rfl⟩)))
  all_goals
    go_wp2
    go_ret
    exact ⟨rfl, hbd.out⟩

theorem differentBits_tells (N L B L' B' : Nat) (A A' : Option Addr) (c c' : Nat) (xs ys : List Int) (w : World) (hl : xs.length = 4096) (hl' : ys.length = 4096) (hx : IS w L B A xs) (hy : IS w L' B' A' ys) (hB : B ≤ w.heap.size) (hB' : B' ≤ w.heap.size) (hBN : B ≤ N) (hBN' : B' ≤ N) :
    Tells N (fun _ => True) w 114 (.agg #[.slice A 4096 c, .slice A' 4096 c']) (fun x0 x1 => bits .xor .i64 (xs.getD (64 * x0 + x1).toNat 0) (ys.getD (64 * x0 + x1).toNat 0)) := by
  intro x0 x1 W h0 h1 hb hz _
  refine (differentBits_any L B L' B' A A' c c' 4096 xs ys x0 x1 W rfl hl hl' (hx.below hb hBN) (hy.below hb hBN') (Nat.le_trans hB hz) (Nat.le_trans hB' hz) h0 h1).mono ?_
  rintro e W' ⟨rfl, hb'⟩
  have e1 : (64 * (x0 : Int) + (x1 : Int)).toNat = 64 * x0 + x1 := by omega
  refine ⟨?_, trivial, none, grownBy_of_below hb' none, fun k hk => by cases hk⟩
  show Ending.returned (.int .i64 _) = Ending.returned (.int .i64 (bits .xor .i64 (xs.getD (64 * (x0 : Int) + (x1 : Int)).toNat 0) (ys.getD (64 * (x0 : Int) + (x1 : Int)).toNat 0)))
  rw [e1]

end Go.Proofs.Ytekjgngkipbefaa
