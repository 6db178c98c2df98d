import Derived.Test.YtaaloepoegehkaaDL
import Derived.WalkKit
import Derived.WalkSpells
import Derived.WalkLawsBesides
import Derived.Deep.RegionLaw
import Derived.Deep.DeepCutAuto
import Derived.Lib.Hide
/- FirstDesk: the exact law's walk. -/
namespace Go.Proofs.Ytaaloepoegehkaa
open Go.RowKit
set_option linter.unusedVariables false
set_option maxRecDepth 100000

set_option maxHeartbeats 8000000 in
theorem lawFirstDesk (w : World) : Calls Try.prog 8 #[] w fun e w' => e = .returned (.bool true) ∧ Below w.heap.size w w' := by
  have hS := Lib.hid sFirstDesk_any
  have hI := Lib.hid iFirstDesk_any
  have hEq := Lib.hid fun (L B L' B' : Nat) (A A' : Option Addr) (c c' : Nat) (W : World) (h1 : RS Nd.enc 4 W L B A [fdN]) (hB : B ≤ W.heap.size) (h2 : RS Nd.enc 4 W L' B' A' [fdN]) (hB' : B' ≤ W.heap.size) => (show Calls Try.prog 40 #[.agg #[.slice A 1 c, .slice none 0 0], .agg #[.slice A' 1 c', .slice none 0 0]] W fun e w' => e = .returned (.bool true) ∧ Below W.heap.size W w' from eqDesk_k L B L' B' A none A' none c 0 c' 0 [fdN] [] W (by decide) (by simp) h1 (rs_nilD _ _ _ _) hB h2 (rs_nilD _ _ _ _) hB')
  have hMk := Lib.hid fun (lo hi : Nat) (A : Option Addr) (c : Nat) (W : World) (h1 : lo ≤ W.heap.size) (h2 : hi ≤ W.heap.size) (hx : OK Nd.enc 4 108 W lo hi (.slice A 1 c) [fdN]) => (show Calls Try.prog 41 #[.agg #[.slice A 1 c, .slice none 0 0], .int .i64 1] W fun e w' => e = .returned (.int .i64 5) ∧ OK Nd.enc 4 108 w' lo hi (.slice A 1 c) (marksNd 1 1) ∧ Chg lo hi W w' from markDesk1 lo hi A c [fdN] 1 W (by decide) (by decide) (by decide) h1 h2 hx)
  have hHd := Lib.hid fun (L B : Nat) (A : Option Addr) (c : Nat) (W : World) (hB : B ≤ W.heap.size) (hx : RS Nd.enc 4 W L B A (marksNd 1 1)) => (show Calls Try.prog 42 #[.agg #[.slice A 1 c, .slice none 0 0], .int .i64 1] W fun e w' => e = .returned (.int .i64 5) ∧ Below W.heap.size W w' from heldDesk1 L B A 1 c 1 W (by decide) (by decide) (by decide) hB hx)
  go_enter Try.func8, Try.ntmps8
  go_wp2_with (fail)
  refine (hS.out _).mono ?_
  rintro e w1 ⟨A1, c1, rfl, ho, hb⟩
  have F1 := Lib.hid (FD.call ho hb)
  clear ho hb
  go_upto_region 2 with fail
  generalize w1.alloc (.cells #[.slice A1 1 c1, .slice none 0 0] 48) = W1 at *
  generalize hl1 : w.heap.size = lo1 at *
  have hL1 := Lib.hid hl1
  clear hl1
  generalize hg1 : w1.heap.size = g1 at *
  clear hg1
  go_wp2_with (fail)
  refine (hI.out _).mono ?_
  rintro e w2 ⟨A2, c2, rfl, ho, hb⟩
  have F2 := Lib.hid (FD.call ho hb)
  have G1 := Lib.hid (F1.out.two hb (.cells #[.slice A2 1 c2, .slice none 0 0] 48))
  have hz := hb.size
  have hS2 : w2.heap.size < (w2.alloc (.cells #[.slice A2 1 c2, .slice none 0 0] 48)).heap.size := by simp
  have hl9 := F1.out.l2
  have hlg := F1.out.bx.lt
  clear ho hb F1
  go_upto_region 3 with fail
  generalize w2.alloc (.cells #[.slice A2 1 c2, .slice none 0 0] 48) = W2 at *
  generalize w2.heap.size = g2 at *
  obtain ⟨k0, k1⟩ := F2.out.bx.cells
  obtain ⟨l0, l1⟩ := G1.out.bx.cells
  go_wp2_with (fail)
  refine (hEq.out W1.heap.size g2 lo1 g1 A2 A1 c2 c1 W2 (Nd.rs F2.out.ok) F2.out.l2 (Nd.rs G1.out.ok) G1.out.l2).mono ?_
  rintro e w3 ⟨rfl, hb⟩
  have F3 := Lib.hid (F2.out.below hb)
  have G3 := Lib.hid (G1.out.below hb)
  clear hb k0 k1 l0 l1 F2 G1
  obtain ⟨k0, k1⟩ := F3.out.bx.cells
  go_wp2_with (fail)
  have hW1.heap.size : W1.heap.size ≤ w3.heap.size := by have := F3.out.l1; have := F3.out.be.size; omega
  refine (hMk.out W1.heap.size g2 A2 c2 w3 hW1.heap.size F3.out.l2 F3.out.ok).mono ?_
  rintro e w4 ⟨rfl, ho, hc⟩
  have F4 := Lib.hid (F3.out.mark hc ho)
  have G4 := Lib.hid (G3.out.chg hc (.inl hl9) (.inl hlg) (by have := G3.out.lg; omega))
  clear hc ho k0 k1 F3 G3
  obtain ⟨k0, k1⟩ := F4.out.bx.cells
  go_wp2_with (fail)
  refine (hHd.out W1.heap.size g2 A2 c2 w4 F4.out.l2 (Nd.rs F4.out.ok)).mono ?_
  rintro e w5 ⟨rfl, hb⟩
  have F5 := Lib.hid (F4.out.below hb)
  have G5 := Lib.hid (G4.out.below hb)
  clear hb k0 k1 F4 G4
  go_wp2_with (fail)
  refine (hI.out _).mono ?_
  rintro e w6 ⟨A3, c3, rfl, ho, hb⟩
  have H6 := Lib.hid (FD.call ho hb)
  have F6 := Lib.hid (F5.out.two hb (.cells #[.slice A3 1 c3, .slice none 0 0] 48))
  have G6 := Lib.hid (G5.out.two hb (.cells #[.slice A3 1 c3, .slice none 0 0] 48))
  clear ho hb F5 G5
  go_upto_region 14 with fail
  generalize w6.alloc (.cells #[.slice A3 1 c3, .slice none 0 0] 48) = W6 at *
  generalize w5.heap.size = lo3 at *
  generalize w6.heap.size = g3 at *
  obtain ⟨k0, k1⟩ := H6.out.bx.cells
  obtain ⟨l0, l1⟩ := G6.out.bx.cells
  go_wp2_with (fail)
  refine (hEq.out lo3 g3 lo1 g1 A3 A1 c3 c1 W6 (Nd.rs H6.out.ok) H6.out.l2 (Nd.rs G6.out.ok) G6.out.l2).mono ?_
  rintro e w7 ⟨rfl, hb⟩
  have F7 := Lib.hid (F6.out.below hb)
  have G7 := Lib.hid (G6.out.below hb)
  clear hb k0 k1 l0 l1 F6 G6 H6
  obtain ⟨k0, k1⟩ := F7.out.bx.cells
  go_wp2_with (fail)
  refine (hHd.out W1.heap.size g2 A2 c2 w7 F7.out.l2 (Nd.rs F7.out.ok)).mono ?_
  rintro e w8 ⟨rfl, hb⟩
  have G8 := Lib.hid (G7.out.below hb)
  clear hb k0 k1 F7 G7
  go_wp2
  go_ret
  exact ⟨rfl, G8.out.be⟩
end Go.Proofs.Ytaaloepoegehkaa
