/- Texts of this proof, one behind the other: DR3, CZ3, DA, SA, DR4, DT2. -/
import Derived.Test.YtmhdijklindipaaZ12
import Derived.WalkKit
import Derived.WalkSpells
import Derived.WalkLawsBesides
import Derived.Lib.Hide
import Derived.Test.YtmhdijklindipaaZ13
import Derived.Deep.RegionHeld3
import Derived.Deep.RegionLaw
import Derived.Test.YtmhdijklindipaaZ14
import Derived.Deep.AppendLies
import Derived.Test.YtmhdijklindipaaZ8
import Derived.Deep.DeepCutAuto
/- Drawn instructions, and what is near one. -/
namespace Go.Proofs.Ytmhdijklindipaa
open Go.RowKit
set_option linter.unusedVariables false
set_option maxRecDepth 100000

def an1 : List Int := [-1, 6]
def an2 : List Int := [-1, 0, 6, 4611686018427387904]
def an3 : List Int := [-1, 0, 1, 6]
def an4 : List Int := [-1, 0, 1, 3, 4, 5, 6, 63, 64]
def ops5 : List ByteArray := [⟨#[]⟩, ⟨#[99,111,110,115,116]⟩, ⟨#[110,111,112]⟩, ⟨#[115,101,116]⟩, ⟨#[108,101,97]⟩]
theorem ops5_size : ∀ s ∈ ops5, s.size ≤ 100 := by decide
theorem ops5_cells : (ops5.flatMap encD).toArray = #[.string ⟨#[]⟩, .string ⟨#[99,111,110,115,116]⟩, .string ⟨#[110,111,112]⟩, .string ⟨#[115,101,116]⟩, .string ⟨#[108,101,97]⟩] := rfl

set_option maxHeartbeats 16000000 in
theorem anyInstr_any (g K : Nat) (w : World) (hK : K ≤ 600000000) (hc : Cur w g K) :
    Calls Try.prog 154 #[.pointer (some ⟨g, 0, none⟩)] w (DrX w g (K + 18)) := by
  have HP := Lib.hid fun (K : Nat) (n : Int) (W : World) (hK : K ≤ 900000000) (hn : n ≤ 10000) (hc : Cur W g K) => pick_any g K n W hK hn hc
  have a0 := (Below.refl w.heap.size w).alloc (Nat.le_refl _) (.cells #[.string ⟨#[]⟩, .int .i64 0, .int .i64 0, .int .i64 0, .int .i64 0] 56)
  have hgw := hc.lt
  obtain ⟨gR, hgR⟩ : ∃ x, x = w.heap.size := ⟨_, rfl⟩
  have hY0 : XB (w.alloc (.cells #[.string ⟨#[]⟩, .int .i64 0, .int .i64 0, .int .i64 0, .int .i64 0] 56)) gR ⟨ByteArray.empty, 0, 0, 0, 0⟩ := by rw [hgR]; exact heap_alloc_new w _
  have hc0 := hc.below a0
  have hh0 : Chg g (g + 1) w (w.alloc (.cells #[.string ⟨#[]⟩, .int .i64 0, .int .i64 0, .int .i64 0, .int .i64 0] 56)) := (Chg.refl _ _ _).alloc _
  have hgg : Hid (g < gR) := by unfold Hid; omega
  have hRw : Hid (w.heap.size ≤ gR) := by unfold Hid; omega
  have eW : w.heap.size = gR := hgR.symm
  have hEW := Lib.hid eW
  clear hgR a0 hc
  go_enter Try.func154, Try.ntmps154
  go_upto_region 1 with fail
  generalize w.alloc (.cells #[.string ⟨#[]⟩, .int .i64 0, .int .i64 0, .int .i64 0, .int .i64 0] 56) = W0 at *
  try rw [eW]
  clear eW
  have HI := Lib.hid (instr_any g K 6 W0 (by omega) (by omega) hc0)
  have hH0 := Lib.hid hh0
  have hY1 := Lib.hid hY0
  clear hc0 hh0 hY0
  go_wp2_with (fail)
  with_reducible refine HI.out.mono ?_
  rintro e w2 ⟨⟨s, d, a, b, m⟩, rfl, hsz', hcu, hch⟩
  have hsz := Lib.hid hsz'
  dsimp only at hsz ⊢
  clear hsz'
  have hX2 := Lib.hid (show XB (w2.alloc (.cells #[.string s, .int .i64 d, .int .i64 a, .int .i64 b, .int .i64 m] 56)) w2.heap.size ⟨s, d, a, b, m⟩ from heap_alloc_new w2 _)
  have a2 := (Below.refl w2.heap.size w2).alloc (Nat.le_refl _) (.cells #[.string s, .int .i64 d, .int .i64 a, .int .i64 b, .int .i64 m] 56)
  have hY2 := CB.chgD (show CB 56 W0 gR (In.enc ⟨ByteArray.empty, 0, 0, 0, 0⟩) from hY1.out) hch (.inr (by have := hgg.out; omega))
  have hYl := CB.lt hY2
  have hY3 : Hid (XB (w2.alloc (.cells #[.string s, .int .i64 d, .int .i64 a, .int .i64 b, .int .i64 m] 56)) gR ⟨ByteArray.empty, 0, 0, 0, 0⟩) := CB.below hY2 a2 hYl
  have hC3 := Lib.hid (hcu.below a2)
  have hH3 := Lib.hid ((hH0.out.trans hch).alloc (.cells #[.string s, .int .i64 d, .int .i64 a, .int .i64 b, .int .i64 m] 56))
  obtain ⟨gB, hgB⟩ : ∃ x, x = w2.heap.size := ⟨_, rfl⟩
  have hBR : Hid (gR < gB) := by unfold Hid; omega
  have hX3 : Hid (XB (w2.alloc (.cells #[.string s, .int .i64 d, .int .i64 a, .int .i64 b, .int .i64 m] 56)) gB ⟨s, d, a, b, m⟩) := by rw [hgB]; exact hX2.out
  have eB := hgB.symm
  clear hgB hX2 a2 hY2 hYl hcu hch hH0 hY1
  go_wp2_with (fail)
  generalize w2.alloc (.cells #[.string s, .int .i64 d, .int .i64 a, .int .i64 b, .int .i64 m] 56) = W3 at *
  try rw [eB]
  clear eB
  with_reducible refine (HP.out (K + 14) 14 W3 (by omega) (by omega) hC3.out).mono ?_
  rintro e w4 ⟨p, rfl, hp, hcu, hch⟩
  have hX4 := Lib.hid (CB.chgD (show CB 56 W3 gB (In.enc ⟨s, d, a, b, m⟩) from hX3.out) hch (.inr (by have := hgg.out; have := hBR.out; omega)))
  have hY4 := Lib.hid (CB.chgD (show CB 56 W3 gR (In.enc ⟨ByteArray.empty, 0, 0, 0, 0⟩) from hY3.out) hch (.inr (by have := hgg.out; omega)))
  have hC4 := Lib.hid hcu
  have hH4 := Lib.hid (hH3.out.trans hch)
  clear hcu hch hX3 hY3 hC3 hH3
  have hP := Lib.hid hp
  clear hp
  by_cases q0 : p = 0
  · subst q0
    have hIS := lit_is w4 an1
    have al := (Below.refl w4.heap.size w4).alloc (Nat.le_refl _) (.cells (intCells an1) 3)
    have hX5 := Lib.hid (CB.below (show CB 56 w4 gB (In.enc ⟨s, d, a, b, m⟩) from hX4.out) al (CB.lt hX4.out))
    have hY5 := Lib.hid (CB.below (show CB 56 w4 gR (In.enc ⟨ByteArray.empty, 0, 0, 0, 0⟩) from hY4.out) al (CB.lt hY4.out))
    have hC5 := Lib.hid (hC4.out.below al)
    have hH5 := Lib.hid (hH4.out.alloc (.cells (intCells an1) 3))
    have hgl := hC4.out.lt
    clear al hX4 hY4 hC4 hH4
    have hM := Lib.hid (among_any g (K + 16) w4.heap.size (w4.heap.size + 1) (some ⟨w4.heap.size, 0, none⟩) 2 2 an1 _ rfl (by omega) hC5.out (by decide) (by decide) hIS hgl (by simp))
    clear hIS hgl
    go_wp2_with (fail)
    refine hM.out.mono ?_
    rintro e w6 ⟨v, rfl, _, hcu, hch⟩
    have hX6 := Lib.hid (CB.chgD (show CB 56 (w4.alloc (.cells (intCells an1) 3)) gB (In.enc ⟨s, d, a, b, m⟩) from hX5.out) hch (.inr (by have := hgg.out; have := hBR.out; omega)))
    have hY6 := Lib.hid (CB.chgD (show CB 56 (w4.alloc (.cells (intCells an1) 3)) gR (In.enc ⟨ByteArray.empty, 0, 0, 0, 0⟩) from hY5.out) hch (.inr (by have := hgg.out; omega)))
    have hC6 := Lib.hid hcu
    have hH6 := Lib.hid (hH5.out.trans hch)
    clear hcu hch hX5 hY5 hC5 hH5
    clear hM
    have f7 := CB.frozen (show CB 56 w6 gB (In.enc ⟨s, d, a, b, m⟩) from hX6.out) 1
    have o7 := (CB.cell (show CB 56 w6 gB (In.enc ⟨s, d, a, b, m⟩) from hX6.out) 1).trans (rfl : _ = some (Value.int .i64 (d)))
    have hX7 : Hid (XB (w6.setCell ⟨gB, 1, none⟩ (.int .i64 (v))) gB ⟨s, (v), a, b, m⟩) := CB.set (show CB 56 w6 gB (In.enc ⟨s, d, a, b, m⟩) from hX6.out) 1 (.int .i64 (v))
    have hY7 : Hid (XB (w6.setCell ⟨gB, 1, none⟩ (.int .i64 (v))) gR ⟨ByteArray.empty, 0, 0, 0, 0⟩) := CB.farD (show CB 56 w6 gR (In.enc ⟨ByteArray.empty, 0, 0, 0, 0⟩) from hY6.out) (p := ⟨gB, 1, none⟩) (by show gB ≠ gR; have := hBR.out; omega) _
    have hC7 : Hid (Cur (w6.setCell ⟨gB, 1, none⟩ (.int .i64 (v))) g (K + 18)) := hC6.out.far (p := ⟨gB, 1, none⟩) (by show g < gB; have := hgg.out; have := hBR.out; omega) _
    have hH7 : Hid (Chg g (g + 1) w (w6.setCell ⟨gB, 1, none⟩ (.int .i64 (v)))) := hH6.out.newD (p := ⟨gB, 1, none⟩) (by show w.heap.size ≤ gB; have := hRw.out; have := hBR.out; omega) _
    clear hX6 hY6 hC6 hH6
    obtain ⟨x0, x1, x2, x3, x4⟩ := XB.cells hX7.out
    simp only at x0 x1 x2 x3 x4
    have p0 := CB.frozen (show CB 56 (w6.setCell ⟨gB, 1, none⟩ (.int .i64 (v))) gR (In.enc ⟨ByteArray.empty, 0, 0, 0, 0⟩) from hY7.out) 0
    have p1 := CB.frozen (show CB 56 (w6.setCell ⟨gB, 1, none⟩ (.int .i64 (v))) gR (In.enc ⟨ByteArray.empty, 0, 0, 0, 0⟩) from hY7.out) 1
    have p2 := CB.frozen (show CB 56 (w6.setCell ⟨gB, 1, none⟩ (.int .i64 (v))) gR (In.enc ⟨ByteArray.empty, 0, 0, 0, 0⟩) from hY7.out) 2
    have p3 := CB.frozen (show CB 56 (w6.setCell ⟨gB, 1, none⟩ (.int .i64 (v))) gR (In.enc ⟨ByteArray.empty, 0, 0, 0, 0⟩) from hY7.out) 3
    have p4 := CB.frozen (show CB 56 (w6.setCell ⟨gB, 1, none⟩ (.int .i64 (v))) gR (In.enc ⟨ByteArray.empty, 0, 0, 0, 0⟩) from hY7.out) 4
    obtain ⟨y0, y1, y2, y3, y4⟩ := XB.cells hY7.out
    simp only at y0 y1 y2 y3 y4
    have hne : ¬ gR = gB := by have := hBR.out; omega
    have hne2 : ¬ gB = gR := by have := hBR.out; omega
    go_wp2
    refine bodyPost_ret (v := .agg #[.string s, .int .i64 ((v)), .int .i64 (a), .int .i64 (b), .int .i64 (m)]) ?_ rfl ⟨⟨s, (v), a, b, m⟩, rfl, hsz.out, ?_, ?_⟩
    · obtain ⟨z0, z1, z2, z3, z4⟩ := (XB.five' ⟨s, (v), a, b, m⟩ hY7.out).cells
      generalize (World.setCell _ ⟨gR, 4, none⟩ _) = W at z0 z1 z2 z3 z4 ⊢
      simp only at z0 z1 z2 z3 z4
      simp [results, Try.results154, go_sem, z0, z1, z2, z3, z4]
    · have hcu := hC7.out.more (show K + 18 ≤ K + 18 by omega)
      exact ((((hcu.far (p := ⟨gR, 0, none⟩) hgg.out _).far (p := ⟨gR, 1, none⟩) hgg.out _).far (p := ⟨gR, 2, none⟩) hgg.out _).far (p := ⟨gR, 3, none⟩) hgg.out _).far (p := ⟨gR, 4, none⟩) hgg.out _
    · exact ((((hH7.out.newD (p := ⟨gR, 0, none⟩) hRw.out _).newD (p := ⟨gR, 1, none⟩) hRw.out _).newD (p := ⟨gR, 2, none⟩) hRw.out _).newD (p := ⟨gR, 3, none⟩) hRw.out _).newD (p := ⟨gR, 4, none⟩) hRw.out _
  by_cases q1 : p = 1
  · subst q1
    have hIS := lit_is w4 an2
    have al := (Below.refl w4.heap.size w4).alloc (Nat.le_refl _) (.cells (intCells an2) 3)
    have hX5 := Lib.hid (CB.below (show CB 56 w4 gB (In.enc ⟨s, d, a, b, m⟩) from hX4.out) al (CB.lt hX4.out))
    have hY5 := Lib.hid (CB.below (show CB 56 w4 gR (In.enc ⟨ByteArray.empty, 0, 0, 0, 0⟩) from hY4.out) al (CB.lt hY4.out))
    have hC5 := Lib.hid (hC4.out.below al)
    have hH5 := Lib.hid (hH4.out.alloc (.cells (intCells an2) 3))
    have hgl := hC4.out.lt
    clear al hX4 hY4 hC4 hH4
    have hM := Lib.hid (among_any g (K + 16) w4.heap.size (w4.heap.size + 1) (some ⟨w4.heap.size, 0, none⟩) 4 4 an2 _ rfl (by omega) hC5.out (by decide) (by decide) hIS hgl (by simp))
    clear hIS hgl
    go_wp2_with (fail)
    refine hM.out.mono ?_
    rintro e w6 ⟨v, rfl, _, hcu, hch⟩
    have hX6 := Lib.hid (CB.chgD (show CB 56 (w4.alloc (.cells (intCells an2) 3)) gB (In.enc ⟨s, d, a, b, m⟩) from hX5.out) hch (.inr (by have := hgg.out; have := hBR.out; omega)))
    have hY6 := Lib.hid (CB.chgD (show CB 56 (w4.alloc (.cells (intCells an2) 3)) gR (In.enc ⟨ByteArray.empty, 0, 0, 0, 0⟩) from hY5.out) hch (.inr (by have := hgg.out; omega)))
    have hC6 := Lib.hid hcu
    have hH6 := Lib.hid (hH5.out.trans hch)
    clear hcu hch hX5 hY5 hC5 hH5
    clear hM
    have f7 := CB.frozen (show CB 56 w6 gB (In.enc ⟨s, d, a, b, m⟩) from hX6.out) 2
    have o7 := (CB.cell (show CB 56 w6 gB (In.enc ⟨s, d, a, b, m⟩) from hX6.out) 2).trans (rfl : _ = some (Value.int .i64 (a)))
    have hX7 : Hid (XB (w6.setCell ⟨gB, 2, none⟩ (.int .i64 (v))) gB ⟨s, d, (v), b, m⟩) := CB.set (show CB 56 w6 gB (In.enc ⟨s, d, a, b, m⟩) from hX6.out) 2 (.int .i64 (v))
    have hY7 : Hid (XB (w6.setCell ⟨gB, 2, none⟩ (.int .i64 (v))) gR ⟨ByteArray.empty, 0, 0, 0, 0⟩) := CB.farD (show CB 56 w6 gR (In.enc ⟨ByteArray.empty, 0, 0, 0, 0⟩) from hY6.out) (p := ⟨gB, 2, none⟩) (by show gB ≠ gR; have := hBR.out; omega) _
    have hC7 : Hid (Cur (w6.setCell ⟨gB, 2, none⟩ (.int .i64 (v))) g (K + 18)) := hC6.out.far (p := ⟨gB, 2, none⟩) (by show g < gB; have := hgg.out; have := hBR.out; omega) _
    have hH7 : Hid (Chg g (g + 1) w (w6.setCell ⟨gB, 2, none⟩ (.int .i64 (v)))) := hH6.out.newD (p := ⟨gB, 2, none⟩) (by show w.heap.size ≤ gB; have := hRw.out; have := hBR.out; omega) _
    clear hX6 hY6 hC6 hH6
    obtain ⟨x0, x1, x2, x3, x4⟩ := XB.cells hX7.out
    simp only at x0 x1 x2 x3 x4
    have p0 := CB.frozen (show CB 56 (w6.setCell ⟨gB, 2, none⟩ (.int .i64 (v))) gR (In.enc ⟨ByteArray.empty, 0, 0, 0, 0⟩) from hY7.out) 0
    have p1 := CB.frozen (show CB 56 (w6.setCell ⟨gB, 2, none⟩ (.int .i64 (v))) gR (In.enc ⟨ByteArray.empty, 0, 0, 0, 0⟩) from hY7.out) 1
    have p2 := CB.frozen (show CB 56 (w6.setCell ⟨gB, 2, none⟩ (.int .i64 (v))) gR (In.enc ⟨ByteArray.empty, 0, 0, 0, 0⟩) from hY7.out) 2
    have p3 := CB.frozen (show CB 56 (w6.setCell ⟨gB, 2, none⟩ (.int .i64 (v))) gR (In.enc ⟨ByteArray.empty, 0, 0, 0, 0⟩) from hY7.out) 3
    have p4 := CB.frozen (show CB 56 (w6.setCell ⟨gB, 2, none⟩ (.int .i64 (v))) gR (In.enc ⟨ByteArray.empty, 0, 0, 0, 0⟩) from hY7.out) 4
    obtain ⟨y0, y1, y2, y3, y4⟩ := XB.cells hY7.out
    simp only at y0 y1 y2 y3 y4
    have hne : ¬ gR = gB := by have := hBR.out; omega
    have hne2 : ¬ gB = gR := by have := hBR.out; omega
    go_wp2
    refine bodyPost_ret (v := .agg #[.string s, .int .i64 (d), .int .i64 ((v)), .int .i64 (b), .int .i64 (m)]) ?_ rfl ⟨⟨s, d, (v), b, m⟩, rfl, hsz.out, ?_, ?_⟩
    · obtain ⟨z0, z1, z2, z3, z4⟩ := (XB.five' ⟨s, d, (v), b, m⟩ hY7.out).cells
      generalize (World.setCell _ ⟨gR, 4, none⟩ _) = W at z0 z1 z2 z3 z4 ⊢
      simp only at z0 z1 z2 z3 z4
      simp [results, Try.results154, go_sem, z0, z1, z2, z3, z4]
    · have hcu := hC7.out.more (show K + 18 ≤ K + 18 by omega)
      exact ((((hcu.far (p := ⟨gR, 0, none⟩) hgg.out _).far (p := ⟨gR, 1, none⟩) hgg.out _).far (p := ⟨gR, 2, none⟩) hgg.out _).far (p := ⟨gR, 3, none⟩) hgg.out _).far (p := ⟨gR, 4, none⟩) hgg.out _
    · exact ((((hH7.out.newD (p := ⟨gR, 0, none⟩) hRw.out _).newD (p := ⟨gR, 1, none⟩) hRw.out _).newD (p := ⟨gR, 2, none⟩) hRw.out _).newD (p := ⟨gR, 3, none⟩) hRw.out _).newD (p := ⟨gR, 4, none⟩) hRw.out _
  by_cases q2 : p = 2
  · subst q2
    have hIS := lit_is w4 an3
    have al := (Below.refl w4.heap.size w4).alloc (Nat.le_refl _) (.cells (intCells an3) 3)
    have hX5 := Lib.hid (CB.below (show CB 56 w4 gB (In.enc ⟨s, d, a, b, m⟩) from hX4.out) al (CB.lt hX4.out))
    have hY5 := Lib.hid (CB.below (show CB 56 w4 gR (In.enc ⟨ByteArray.empty, 0, 0, 0, 0⟩) from hY4.out) al (CB.lt hY4.out))
    have hC5 := Lib.hid (hC4.out.below al)
    have hH5 := Lib.hid (hH4.out.alloc (.cells (intCells an3) 3))
    have hgl := hC4.out.lt
    clear al hX4 hY4 hC4 hH4
    have hM := Lib.hid (among_any g (K + 16) w4.heap.size (w4.heap.size + 1) (some ⟨w4.heap.size, 0, none⟩) 4 4 an3 _ rfl (by omega) hC5.out (by decide) (by decide) hIS hgl (by simp))
    clear hIS hgl
    go_wp2_with (fail)
    refine hM.out.mono ?_
    rintro e w6 ⟨v, rfl, _, hcu, hch⟩
    have hX6 := Lib.hid (CB.chgD (show CB 56 (w4.alloc (.cells (intCells an3) 3)) gB (In.enc ⟨s, d, a, b, m⟩) from hX5.out) hch (.inr (by have := hgg.out; have := hBR.out; omega)))
    have hY6 := Lib.hid (CB.chgD (show CB 56 (w4.alloc (.cells (intCells an3) 3)) gR (In.enc ⟨ByteArray.empty, 0, 0, 0, 0⟩) from hY5.out) hch (.inr (by have := hgg.out; omega)))
    have hC6 := Lib.hid hcu
    have hH6 := Lib.hid (hH5.out.trans hch)
    clear hcu hch hX5 hY5 hC5 hH5
    clear hM
    have f7 := CB.frozen (show CB 56 w6 gB (In.enc ⟨s, d, a, b, m⟩) from hX6.out) 3
    have o7 := (CB.cell (show CB 56 w6 gB (In.enc ⟨s, d, a, b, m⟩) from hX6.out) 3).trans (rfl : _ = some (Value.int .i64 (b)))
    have hX7 : Hid (XB (w6.setCell ⟨gB, 3, none⟩ (.int .i64 (v))) gB ⟨s, d, a, (v), m⟩) := CB.set (show CB 56 w6 gB (In.enc ⟨s, d, a, b, m⟩) from hX6.out) 3 (.int .i64 (v))
    have hY7 : Hid (XB (w6.setCell ⟨gB, 3, none⟩ (.int .i64 (v))) gR ⟨ByteArray.empty, 0, 0, 0, 0⟩) := CB.farD (show CB 56 w6 gR (In.enc ⟨ByteArray.empty, 0, 0, 0, 0⟩) from hY6.out) (p := ⟨gB, 3, none⟩) (by show gB ≠ gR; have := hBR.out; omega) _
    have hC7 : Hid (Cur (w6.setCell ⟨gB, 3, none⟩ (.int .i64 (v))) g (K + 18)) := hC6.out.far (p := ⟨gB, 3, none⟩) (by show g < gB; have := hgg.out; have := hBR.out; omega) _
    have hH7 : Hid (Chg g (g + 1) w (w6.setCell ⟨gB, 3, none⟩ (.int .i64 (v)))) := hH6.out.newD (p := ⟨gB, 3, none⟩) (by show w.heap.size ≤ gB; have := hRw.out; have := hBR.out; omega) _
    clear hX6 hY6 hC6 hH6
    obtain ⟨x0, x1, x2, x3, x4⟩ := XB.cells hX7.out
    simp only at x0 x1 x2 x3 x4
    have p0 := CB.frozen (show CB 56 (w6.setCell ⟨gB, 3, none⟩ (.int .i64 (v))) gR (In.enc ⟨ByteArray.empty, 0, 0, 0, 0⟩) from hY7.out) 0
    have p1 := CB.frozen (show CB 56 (w6.setCell ⟨gB, 3, none⟩ (.int .i64 (v))) gR (In.enc ⟨ByteArray.empty, 0, 0, 0, 0⟩) from hY7.out) 1
    have p2 := CB.frozen (show CB 56 (w6.setCell ⟨gB, 3, none⟩ (.int .i64 (v))) gR (In.enc ⟨ByteArray.empty, 0, 0, 0, 0⟩) from hY7.out) 2
    have p3 := CB.frozen (show CB 56 (w6.setCell ⟨gB, 3, none⟩ (.int .i64 (v))) gR (In.enc ⟨ByteArray.empty, 0, 0, 0, 0⟩) from hY7.out) 3
    have p4 := CB.frozen (show CB 56 (w6.setCell ⟨gB, 3, none⟩ (.int .i64 (v))) gR (In.enc ⟨ByteArray.empty, 0, 0, 0, 0⟩) from hY7.out) 4
    obtain ⟨y0, y1, y2, y3, y4⟩ := XB.cells hY7.out
    simp only at y0 y1 y2 y3 y4
    have hne : ¬ gR = gB := by have := hBR.out; omega
    have hne2 : ¬ gB = gR := by have := hBR.out; omega
    go_wp2
    refine bodyPost_ret (v := .agg #[.string s, .int .i64 (d), .int .i64 (a), .int .i64 ((v)), .int .i64 (m)]) ?_ rfl ⟨⟨s, d, a, (v), m⟩, rfl, hsz.out, ?_, ?_⟩
    · obtain ⟨z0, z1, z2, z3, z4⟩ := (XB.five' ⟨s, d, a, (v), m⟩ hY7.out).cells
      generalize (World.setCell _ ⟨gR, 4, none⟩ _) = W at z0 z1 z2 z3 z4 ⊢
      simp only at z0 z1 z2 z3 z4
      simp [results, Try.results154, go_sem, z0, z1, z2, z3, z4]
    · have hcu := hC7.out.more (show K + 18 ≤ K + 18 by omega)
      exact ((((hcu.far (p := ⟨gR, 0, none⟩) hgg.out _).far (p := ⟨gR, 1, none⟩) hgg.out _).far (p := ⟨gR, 2, none⟩) hgg.out _).far (p := ⟨gR, 3, none⟩) hgg.out _).far (p := ⟨gR, 4, none⟩) hgg.out _
    · exact ((((hH7.out.newD (p := ⟨gR, 0, none⟩) hRw.out _).newD (p := ⟨gR, 1, none⟩) hRw.out _).newD (p := ⟨gR, 2, none⟩) hRw.out _).newD (p := ⟨gR, 3, none⟩) hRw.out _).newD (p := ⟨gR, 4, none⟩) hRw.out _
  by_cases q3 : p = 3
  · subst q3
    have hIS := lit_is w4 an4
    have al := (Below.refl w4.heap.size w4).alloc (Nat.le_refl _) (.cells (intCells an4) 3)
    have hX5 := Lib.hid (CB.below (show CB 56 w4 gB (In.enc ⟨s, d, a, b, m⟩) from hX4.out) al (CB.lt hX4.out))
    have hY5 := Lib.hid (CB.below (show CB 56 w4 gR (In.enc ⟨ByteArray.empty, 0, 0, 0, 0⟩) from hY4.out) al (CB.lt hY4.out))
    have hC5 := Lib.hid (hC4.out.below al)
    have hH5 := Lib.hid (hH4.out.alloc (.cells (intCells an4) 3))
    have hgl := hC4.out.lt
    clear al hX4 hY4 hC4 hH4
    have hM := Lib.hid (among_any g (K + 16) w4.heap.size (w4.heap.size + 1) (some ⟨w4.heap.size, 0, none⟩) 9 9 an4 _ rfl (by omega) hC5.out (by decide) (by decide) hIS hgl (by simp))
    clear hIS hgl
    go_wp2_with (fail)
    refine hM.out.mono ?_
    rintro e w6 ⟨v, rfl, _, hcu, hch⟩
    have hX6 := Lib.hid (CB.chgD (show CB 56 (w4.alloc (.cells (intCells an4) 3)) gB (In.enc ⟨s, d, a, b, m⟩) from hX5.out) hch (.inr (by have := hgg.out; have := hBR.out; omega)))
    have hY6 := Lib.hid (CB.chgD (show CB 56 (w4.alloc (.cells (intCells an4) 3)) gR (In.enc ⟨ByteArray.empty, 0, 0, 0, 0⟩) from hY5.out) hch (.inr (by have := hgg.out; omega)))
    have hC6 := Lib.hid hcu
    have hH6 := Lib.hid (hH5.out.trans hch)
    clear hcu hch hX5 hY5 hC5 hH5
    clear hM
    have f7 := CB.frozen (show CB 56 w6 gB (In.enc ⟨s, d, a, b, m⟩) from hX6.out) 4
    have o7 := (CB.cell (show CB 56 w6 gB (In.enc ⟨s, d, a, b, m⟩) from hX6.out) 4).trans (rfl : _ = some (Value.int .i64 (m)))
    have hX7 : Hid (XB (w6.setCell ⟨gB, 4, none⟩ (.int .i64 (v))) gB ⟨s, d, a, b, (v)⟩) := CB.set (show CB 56 w6 gB (In.enc ⟨s, d, a, b, m⟩) from hX6.out) 4 (.int .i64 (v))
    have hY7 : Hid (XB (w6.setCell ⟨gB, 4, none⟩ (.int .i64 (v))) gR ⟨ByteArray.empty, 0, 0, 0, 0⟩) := CB.farD (show CB 56 w6 gR (In.enc ⟨ByteArray.empty, 0, 0, 0, 0⟩) from hY6.out) (p := ⟨gB, 4, none⟩) (by show gB ≠ gR; have := hBR.out; omega) _
    have hC7 : Hid (Cur (w6.setCell ⟨gB, 4, none⟩ (.int .i64 (v))) g (K + 18)) := hC6.out.far (p := ⟨gB, 4, none⟩) (by show g < gB; have := hgg.out; have := hBR.out; omega) _
    have hH7 : Hid (Chg g (g + 1) w (w6.setCell ⟨gB, 4, none⟩ (.int .i64 (v)))) := hH6.out.newD (p := ⟨gB, 4, none⟩) (by show w.heap.size ≤ gB; have := hRw.out; have := hBR.out; omega) _
    clear hX6 hY6 hC6 hH6
    obtain ⟨x0, x1, x2, x3, x4⟩ := XB.cells hX7.out
    simp only at x0 x1 x2 x3 x4
    have p0 := CB.frozen (show CB 56 (w6.setCell ⟨gB, 4, none⟩ (.int .i64 (v))) gR (In.enc ⟨ByteArray.empty, 0, 0, 0, 0⟩) from hY7.out) 0
    have p1 := CB.frozen (show CB 56 (w6.setCell ⟨gB, 4, none⟩ (.int .i64 (v))) gR (In.enc ⟨ByteArray.empty, 0, 0, 0, 0⟩) from hY7.out) 1
    have p2 := CB.frozen (show CB 56 (w6.setCell ⟨gB, 4, none⟩ (.int .i64 (v))) gR (In.enc ⟨ByteArray.empty, 0, 0, 0, 0⟩) from hY7.out) 2
    have p3 := CB.frozen (show CB 56 (w6.setCell ⟨gB, 4, none⟩ (.int .i64 (v))) gR (In.enc ⟨ByteArray.empty, 0, 0, 0, 0⟩) from hY7.out) 3
    have p4 := CB.frozen (show CB 56 (w6.setCell ⟨gB, 4, none⟩ (.int .i64 (v))) gR (In.enc ⟨ByteArray.empty, 0, 0, 0, 0⟩) from hY7.out) 4
    obtain ⟨y0, y1, y2, y3, y4⟩ := XB.cells hY7.out
    simp only at y0 y1 y2 y3 y4
    have hne : ¬ gR = gB := by have := hBR.out; omega
    have hne2 : ¬ gB = gR := by have := hBR.out; omega
    go_wp2
    refine bodyPost_ret (v := .agg #[.string s, .int .i64 (d), .int .i64 (a), .int .i64 (b), .int .i64 ((v))]) ?_ rfl ⟨⟨s, d, a, b, (v)⟩, rfl, hsz.out, ?_, ?_⟩
    · obtain ⟨z0, z1, z2, z3, z4⟩ := (XB.five' ⟨s, d, a, b, (v)⟩ hY7.out).cells
      generalize (World.setCell _ ⟨gR, 4, none⟩ _) = W at z0 z1 z2 z3 z4 ⊢
      simp only at z0 z1 z2 z3 z4
      simp [results, Try.results154, go_sem, z0, z1, z2, z3, z4]
    · have hcu := hC7.out.more (show K + 18 ≤ K + 18 by omega)
      exact ((((hcu.far (p := ⟨gR, 0, none⟩) hgg.out _).far (p := ⟨gR, 1, none⟩) hgg.out _).far (p := ⟨gR, 2, none⟩) hgg.out _).far (p := ⟨gR, 3, none⟩) hgg.out _).far (p := ⟨gR, 4, none⟩) hgg.out _
    · exact ((((hH7.out.newD (p := ⟨gR, 0, none⟩) hRw.out _).newD (p := ⟨gR, 1, none⟩) hRw.out _).newD (p := ⟨gR, 2, none⟩) hRw.out _).newD (p := ⟨gR, 3, none⟩) hRw.out _).newD (p := ⟨gR, 4, none⟩) hRw.out _
  by_cases q4 : p = 4
  · subst q4
    have hIS := lit_ss w4 ops5
    have al := (Below.refl w4.heap.size w4).alloc (Nat.le_refl _) (.cells (ops5.flatMap encD).toArray 9)
    have hX5 := Lib.hid (CB.below (show CB 56 w4 gB (In.enc ⟨s, d, a, b, m⟩) from hX4.out) al (CB.lt hX4.out))
    have hY5 := Lib.hid (CB.below (show CB 56 w4 gR (In.enc ⟨ByteArray.empty, 0, 0, 0, 0⟩) from hY4.out) al (CB.lt hY4.out))
    have hC5 := Lib.hid (hC4.out.below al)
    have hH5 := Lib.hid (hH4.out.alloc (.cells (ops5.flatMap encD).toArray 9))
    have hgl := hC4.out.lt
    clear al hX4 hY4 hC4 hH4
    have hM := Lib.hid (of_any g (K + 16) w4.heap.size (w4.heap.size + 1) (some ⟨w4.heap.size, 0, none⟩) 5 5 ops5 _ rfl (by omega) hC5.out (by decide) (by decide) hIS hgl (by simp))
    clear hIS hgl
    rw [ops5_cells] at hM hX5 hY5 hC5 hH5
    go_wp2_with (fail)
    with_reducible refine hM.out.mono ?_
    rintro e w6 ⟨v, rfl, hmem, hcu, hch⟩
    have hsv := Lib.hid (ops5_size v hmem)
    clear hmem
    have hX6 := Lib.hid (CB.chgD (show CB 56 (w4.alloc (.cells #[.string ⟨#[]⟩, .string ⟨#[99,111,110,115,116]⟩, .string ⟨#[110,111,112]⟩, .string ⟨#[115,101,116]⟩, .string ⟨#[108,101,97]⟩] 9)) gB (In.enc ⟨s, d, a, b, m⟩) from hX5.out) hch (.inr (by have := hgg.out; have := hBR.out; omega)))
    have hY6 := Lib.hid (CB.chgD (show CB 56 (w4.alloc (.cells #[.string ⟨#[]⟩, .string ⟨#[99,111,110,115,116]⟩, .string ⟨#[110,111,112]⟩, .string ⟨#[115,101,116]⟩, .string ⟨#[108,101,97]⟩] 9)) gR (In.enc ⟨ByteArray.empty, 0, 0, 0, 0⟩) from hY5.out) hch (.inr (by have := hgg.out; omega)))
    have hC6 := Lib.hid hcu
    have hH6 := Lib.hid (hH5.out.trans hch)
    clear hcu hch hX5 hY5 hC5 hH5
    clear hM
    have f7 := CB.frozen (show CB 56 w6 gB (In.enc ⟨s, d, a, b, m⟩) from hX6.out) 0
    have o7 := (CB.cell (show CB 56 w6 gB (In.enc ⟨s, d, a, b, m⟩) from hX6.out) 0).trans (rfl : _ = some (Value.string s))
    have hX7 : Hid (XB (w6.setCell ⟨gB, 0, none⟩ (.string v)) gB ⟨(v), d, a, b, m⟩) := CB.set (show CB 56 w6 gB (In.enc ⟨s, d, a, b, m⟩) from hX6.out) 0 (.string v)
    have hY7 : Hid (XB (w6.setCell ⟨gB, 0, none⟩ (.string v)) gR ⟨ByteArray.empty, 0, 0, 0, 0⟩) := CB.farD (show CB 56 w6 gR (In.enc ⟨ByteArray.empty, 0, 0, 0, 0⟩) from hY6.out) (p := ⟨gB, 0, none⟩) (by show gB ≠ gR; have := hBR.out; omega) _
    have hC7 : Hid (Cur (w6.setCell ⟨gB, 0, none⟩ (.string v)) g (K + 18)) := hC6.out.far (p := ⟨gB, 0, none⟩) (by show g < gB; have := hgg.out; have := hBR.out; omega) _
    have hH7 : Hid (Chg g (g + 1) w (w6.setCell ⟨gB, 0, none⟩ (.string v))) := hH6.out.newD (p := ⟨gB, 0, none⟩) (by show w.heap.size ≤ gB; have := hRw.out; have := hBR.out; omega) _
    clear hX6 hY6 hC6 hH6
    obtain ⟨x0, x1, x2, x3, x4⟩ := XB.cells hX7.out
    simp only at x0 x1 x2 x3 x4
    have p0 := CB.frozen (show CB 56 (w6.setCell ⟨gB, 0, none⟩ (.string v)) gR (In.enc ⟨ByteArray.empty, 0, 0, 0, 0⟩) from hY7.out) 0
    have p1 := CB.frozen (show CB 56 (w6.setCell ⟨gB, 0, none⟩ (.string v)) gR (In.enc ⟨ByteArray.empty, 0, 0, 0, 0⟩) from hY7.out) 1
    have p2 := CB.frozen (show CB 56 (w6.setCell ⟨gB, 0, none⟩ (.string v)) gR (In.enc ⟨ByteArray.empty, 0, 0, 0, 0⟩) from hY7.out) 2
    have p3 := CB.frozen (show CB 56 (w6.setCell ⟨gB, 0, none⟩ (.string v)) gR (In.enc ⟨ByteArray.empty, 0, 0, 0, 0⟩) from hY7.out) 3
    have p4 := CB.frozen (show CB 56 (w6.setCell ⟨gB, 0, none⟩ (.string v)) gR (In.enc ⟨ByteArray.empty, 0, 0, 0, 0⟩) from hY7.out) 4
    obtain ⟨y0, y1, y2, y3, y4⟩ := XB.cells hY7.out
    simp only at y0 y1 y2 y3 y4
    have hne : ¬ gR = gB := by have := hBR.out; omega
    have hne2 : ¬ gB = gR := by have := hBR.out; omega
    go_wp2
    refine bodyPost_ret (v := .agg #[.string (v), .int .i64 (d), .int .i64 (a), .int .i64 (b), .int .i64 (m)]) ?_ rfl ⟨⟨(v), d, a, b, m⟩, rfl, hsv.out, ?_, ?_⟩
    · obtain ⟨z0, z1, z2, z3, z4⟩ := (XB.five' ⟨(v), d, a, b, m⟩ hY7.out).cells
      generalize (World.setCell _ ⟨gR, 4, none⟩ _) = W at z0 z1 z2 z3 z4 ⊢
      simp only at z0 z1 z2 z3 z4
      simp [results, Try.results154, go_sem, z0, z1, z2, z3, z4]
    · have hcu := hC7.out.more (show K + 18 ≤ K + 18 by omega)
      exact ((((hcu.far (p := ⟨gR, 0, none⟩) hgg.out _).far (p := ⟨gR, 1, none⟩) hgg.out _).far (p := ⟨gR, 2, none⟩) hgg.out _).far (p := ⟨gR, 3, none⟩) hgg.out _).far (p := ⟨gR, 4, none⟩) hgg.out _
    · exact ((((hH7.out.newD (p := ⟨gR, 0, none⟩) hRw.out _).newD (p := ⟨gR, 1, none⟩) hRw.out _).newD (p := ⟨gR, 2, none⟩) hRw.out _).newD (p := ⟨gR, 3, none⟩) hRw.out _).newD (p := ⟨gR, 4, none⟩) hRw.out _
  have q0' := Lib.hid q0
  have q1' := Lib.hid q1
  have q2' := Lib.hid q2
  have q3' := Lib.hid q3
  have q4' := Lib.hid q4
  have e0 : (p == 0) = false := by have := q0'.out; simpa using this
  have e1 : (p == 1) = false := by have := q1'.out; simpa using this
  have e2 : (p == 2) = false := by have := q2'.out; simpa using this
  have e3 : (p == 3) = false := by have := q3'.out; simpa using this
  have e4 : (p == 4) = false := by have := q4'.out; simpa using this
  clear q0 q1 q2 q3 q4
  obtain ⟨x0, x1, x2, x3, x4⟩ := XB.cells hX4.out
  simp only at x0 x1 x2 x3 x4
  have p0 := CB.frozen (show CB 56 w4 gR (In.enc ⟨ByteArray.empty, 0, 0, 0, 0⟩) from hY4.out) 0
  have p1 := CB.frozen (show CB 56 w4 gR (In.enc ⟨ByteArray.empty, 0, 0, 0, 0⟩) from hY4.out) 1
  have p2 := CB.frozen (show CB 56 w4 gR (In.enc ⟨ByteArray.empty, 0, 0, 0, 0⟩) from hY4.out) 2
  have p3 := CB.frozen (show CB 56 w4 gR (In.enc ⟨ByteArray.empty, 0, 0, 0, 0⟩) from hY4.out) 3
  have p4 := CB.frozen (show CB 56 w4 gR (In.enc ⟨ByteArray.empty, 0, 0, 0, 0⟩) from hY4.out) 4
  obtain ⟨y0, y1, y2, y3, y4⟩ := XB.cells hY4.out
  simp only at y0 y1 y2 y3 y4
  have hne : ¬ gR = gB := by have := hBR.out; omega
  have hne2 : ¬ gB = gR := by have := hBR.out; omega
  go_wp2
  refine bodyPost_ret (v := .agg #[.string s, .int .i64 (d), .int .i64 (a), .int .i64 (b), .int .i64 (m)]) ?_ rfl ⟨⟨s, d, a, b, m⟩, rfl, hsz.out, ?_, ?_⟩
  · obtain ⟨z0, z1, z2, z3, z4⟩ := (XB.five' ⟨s, d, a, b, m⟩ hY4.out).cells
    generalize (World.setCell _ ⟨gR, 4, none⟩ _) = W at z0 z1 z2 z3 z4 ⊢
    simp only at z0 z1 z2 z3 z4
    simp [results, Try.results154, go_sem, z0, z1, z2, z3, z4]
  · have hcu := hC4.out.more (show K + 16 ≤ K + 18 by omega)
    exact ((((hcu.far (p := ⟨gR, 0, none⟩) hgg.out _).far (p := ⟨gR, 1, none⟩) hgg.out _).far (p := ⟨gR, 2, none⟩) hgg.out _).far (p := ⟨gR, 3, none⟩) hgg.out _).far (p := ⟨gR, 4, none⟩) hgg.out _
  · exact ((((hH4.out.newD (p := ⟨gR, 0, none⟩) hRw.out _).newD (p := ⟨gR, 1, none⟩) hRw.out _).newD (p := ⟨gR, 2, none⟩) hRw.out _).newD (p := ⟨gR, 3, none⟩) hRw.out _).newD (p := ⟨gR, 4, none⟩) hRw.out _
end Go.Proofs.Ytmhdijklindipaa

namespace Go.Proofs.Ytmhdijklindipaa
open Go.RowKit
set_option linter.unusedVariables false
set_option maxRecDepth 100000

theorem step_unwanted {o : Oper} {y : Nat → Option Bool} {X E : Prop} (h : Region.wanted o y = false) (hE : E) : if Region.wanted o y = true then X else E := by rw [h]; exact hE
set_option maxHeartbeats 16000000 in
theorem cdFree_any (x y : In) (w : World) :
    Calls Try.prog 170 #[.agg #[.string x.op, .int .i64 x.d, .int .i64 x.a, .int .i64 x.b, .int .i64 x.m], .agg #[.string y.op, .int .i64 y.d, .int .i64 y.a, .int .i64 y.b, .int .i64 y.m]] w fun e w' => e = .returned (.bool (freeB x y)) ∧ Below w.heap.size w w' := by
  have hT : Hid (freeB x y = (!(x.d == y.d) && !hasI (readsL x) y.d && !hasI (readsL y) x.d)) := rfl
  have hRx := Lib.hid (cdReads_any x)
  have hRy := Lib.hid (cdReads_any y)
  have hLx := Lib.hid (readsL_len x)
  have hLy := Lib.hid (readsL_len y)
  generalize freeB x y = T at *
  generalize readsL x = Rx at *
  generalize readsL y = Ry at *
  obtain ⟨op, d, a, b, m⟩ := x
  obtain ⟨op', d', a', b', m'⟩ := y
  simp only at hT hRx hRy
  have hB2 := fun o o' => Lib.hid (((Below.refl w.heap.size w).alloc (Nat.le_refl _) o).alloc (by simp) o')
  by_cases h : d = d'
  · have hE : (d != d') = false := by simp [h]
    have hE' : (d == d') = true := by simp [h]
    have hF : Hid (T = false) := by rw [Hid, hT.out, hE']; rfl
    clear h
    go_enter Try.func170, Try.ntmps170
    go_wp2_with (fail)
    go_quiet (fail)
    go_wp2
    go_ret
    exact ⟨ret_bool hF.out.symm, below_drewN (hB2 _ _).out _⟩
  · have hE : (d != d') = true := by simp [h]
    have hE' : (d == d') = false := by simp [h]
    clear h
    cases hx : hasI Rx d'
    · have hX := Lib.hid hx
      have hHx := Lib.hid (fun L B A c W (h : IS W L B A Rx) => l1Has_lit L B A Rx.length c Rx d' _ W hx rfl (by have := hLx.out; omega) h)
      have hHy := Lib.hid (fun L B A c W (h : IS W L B A Ry) => l1Has_eq L B A Ry.length c Ry d W rfl (by have := hLy.out; omega) h)
      have hF : Hid (T = !hasI Ry d) := by rw [Hid, hT.out, hE', hx]; simp
      clear hx
      go_enter Try.func170, Try.ntmps170
      go_wp2_with (fail)
      obtain ⟨w1, hw1⟩ : ∃ w1 : World, w1 = (w.alloc (.cells #[.string op, .int .i64 d, .int .i64 a, .int .i64 b, .int .i64 m] 56)).alloc (.cells #[.string op', .int .i64 d', .int .i64 a', .int .i64 b', .int .i64 m'] 56) := ⟨_, rfl⟩
      rw [← hw1]
      obtain ⟨xa, xb, xc, xd, xe⟩ := In.box (RS.below (In.boxed (w := w) (t := 56) ⟨op, d, a, b, m⟩) (show Below (w.heap.size + 1) _ w1 by rw [hw1]; exact (Below.refl _ _).alloc (by simp) _) (by omega))
      have hy := In.boxed (w := w.alloc (.cells #[.string op, .int .i64 d, .int .i64 a, .int .i64 b, .int .i64 m] 56)) (t := 56) ⟨op', d', a', b', m'⟩
      rw [show (w.alloc (.cells #[.string op, .int .i64 d, .int .i64 a, .int .i64 b, .int .i64 m] 56)).heap.size = w.heap.size + 1 by simp, ← hw1] at hy
      obtain ⟨ya, yb, yc, yd, ye⟩ := In.box hy
      have hbw : Hid (Below w.heap.size w w1) := by rw [hw1]; exact (hB2 _ _).out
      have hz : w1.heap.size = w.heap.size + 2 := by rw [hw1]; simp
      have hz1 : w.heap.size < w1.heap.size := by omega
      have hz2 : w.heap.size + 1 < w1.heap.size := by omega
      clear hw1 hy hz
      simp only at xa xb xc xd xe ya yb yc yd ye
      go_region_law (first
        | (go_simp; go_at_call 160; (with_reducible refine (hRx.out _).mono ?_); rintro e w2 ⟨A2, c2, rfl, ho2, hb2⟩; have xa2 := (hb2.cell (p := ⟨w.heap.size, 0, none⟩) hz1).trans xa; have xb2 := (hb2.cell (p := ⟨w.heap.size, 1, none⟩) hz1).trans xb; have xc2 := (hb2.cell (p := ⟨w.heap.size, 2, none⟩) hz1).trans xc; have xd2 := (hb2.cell (p := ⟨w.heap.size, 3, none⟩) hz1).trans xd; have xe2 := (hb2.cell (p := ⟨w.heap.size, 4, none⟩) hz1).trans xe; have ya2 := (hb2.cell (p := ⟨w.heap.size + 1, 0, none⟩) hz2).trans ya; have yb2 := (hb2.cell (p := ⟨w.heap.size + 1, 1, none⟩) hz2).trans yb; have yc2 := (hb2.cell (p := ⟨w.heap.size + 1, 2, none⟩) hz2).trans yc; have yd2 := (hb2.cell (p := ⟨w.heap.size + 1, 3, none⟩) hz2).trans yd; have ye2 := (hb2.cell (p := ⟨w.heap.size + 1, 4, none⟩) hz2).trans ye; have hz12 : w.heap.size < w2.heap.size := (by have := hb2.size; exact Nat.lt_of_lt_of_le hz1 this); have hz22 : w.heap.size + 1 < w2.heap.size := (by have := hb2.size; exact Nat.lt_of_lt_of_le hz2 this))
        | (go_simp; go_at_call 160; (with_reducible refine (hRy.out _).mono ?_); rintro e w3 ⟨A3, c3, rfl, ho3, hb3⟩; have xa3 := (hb3.cell (p := ⟨w.heap.size, 0, none⟩) hz12).trans xa2; have xb3 := (hb3.cell (p := ⟨w.heap.size, 1, none⟩) hz12).trans xb2; have xc3 := (hb3.cell (p := ⟨w.heap.size, 2, none⟩) hz12).trans xc2; have xd3 := (hb3.cell (p := ⟨w.heap.size, 3, none⟩) hz12).trans xd2; have xe3 := (hb3.cell (p := ⟨w.heap.size, 4, none⟩) hz12).trans xe2; have ya3 := (hb3.cell (p := ⟨w.heap.size + 1, 0, none⟩) hz22).trans ya2; have yb3 := (hb3.cell (p := ⟨w.heap.size + 1, 1, none⟩) hz22).trans yb2; have yc3 := (hb3.cell (p := ⟨w.heap.size + 1, 2, none⟩) hz22).trans yc2; have yd3 := (hb3.cell (p := ⟨w.heap.size + 1, 3, none⟩) hz22).trans yd2; have ye3 := (hb3.cell (p := ⟨w.heap.size + 1, 4, none⟩) hz22).trans ye2)
        | (go_simp; go_at_call 179; (with_reducible refine (hHx.out _ _ _ _ _ (by exact ho2.rs)).mono ?_); rintro e w' ⟨rfl, rfl⟩)
        | (go_simp; go_at_call 179; (with_reducible refine (hHy.out _ _ _ _ _ (by exact ho3.rs)).mono ?_); rintro e w' ⟨rfl, rfl⟩))
      all_goals
        have hfin := Lib.hid (hbw.out.trans ((((Below.refl w1.heap.size w1).drew.trans hb2).trans (hb3.mono (by have := hb2.size; exact this))).mono (by omega)))
        go_wp2
        go_ret
        exact ⟨ret_bool (by rw [hF.out]), hfin.out⟩
    · have hX := Lib.hid hx
      have hHx := Lib.hid (fun L B A c W (h : IS W L B A Rx) => l1Has_lit L B A Rx.length c Rx d' _ W hx rfl (by have := hLx.out; omega) h)
      have hHy := Lib.hid (fun L B A c W (h : IS W L B A Ry) => l1Has_eq L B A Ry.length c Ry d W rfl (by have := hLy.out; omega) h)
      have hF : Hid (T = false) := by rw [Hid, hT.out, hE', hx]; rfl
      clear hx
      go_enter Try.func170, Try.ntmps170
      go_wp2_with (fail)
      obtain ⟨w1, hw1⟩ : ∃ w1 : World, w1 = (w.alloc (.cells #[.string op, .int .i64 d, .int .i64 a, .int .i64 b, .int .i64 m] 56)).alloc (.cells #[.string op', .int .i64 d', .int .i64 a', .int .i64 b', .int .i64 m'] 56) := ⟨_, rfl⟩
      rw [← hw1]
      obtain ⟨xa, xb, xc, xd, xe⟩ := In.box (RS.below (In.boxed (w := w) (t := 56) ⟨op, d, a, b, m⟩) (show Below (w.heap.size + 1) _ w1 by rw [hw1]; exact (Below.refl _ _).alloc (by simp) _) (by omega))
      have hy := In.boxed (w := w.alloc (.cells #[.string op, .int .i64 d, .int .i64 a, .int .i64 b, .int .i64 m] 56)) (t := 56) ⟨op', d', a', b', m'⟩
      rw [show (w.alloc (.cells #[.string op, .int .i64 d, .int .i64 a, .int .i64 b, .int .i64 m] 56)).heap.size = w.heap.size + 1 by simp, ← hw1] at hy
      obtain ⟨ya, yb, yc, yd, ye⟩ := In.box hy
      have hbw : Hid (Below w.heap.size w w1) := by rw [hw1]; exact (hB2 _ _).out
      have hz : w1.heap.size = w.heap.size + 2 := by rw [hw1]; simp
      have hz1 : w.heap.size < w1.heap.size := by omega
      have hz2 : w.heap.size + 1 < w1.heap.size := by omega
      clear hw1 hy hz
      simp only at xa xb xc xd xe ya yb yc yd ye
      first | (go_region_law (first
        | (refine step_unwanted (by rfl) ?_)
        | (go_simp; go_at_call 160; (with_reducible refine (hRx.out _).mono ?_); rintro e w2 ⟨A2, c2, rfl, ho2, hb2⟩; have xa2 := (hb2.cell (p := ⟨w.heap.size, 0, none⟩) hz1).trans xa; have xb2 := (hb2.cell (p := ⟨w.heap.size, 1, none⟩) hz1).trans xb; have xc2 := (hb2.cell (p := ⟨w.heap.size, 2, none⟩) hz1).trans xc; have xd2 := (hb2.cell (p := ⟨w.heap.size, 3, none⟩) hz1).trans xd; have xe2 := (hb2.cell (p := ⟨w.heap.size, 4, none⟩) hz1).trans xe; have ya2 := (hb2.cell (p := ⟨w.heap.size + 1, 0, none⟩) hz2).trans ya; have yb2 := (hb2.cell (p := ⟨w.heap.size + 1, 1, none⟩) hz2).trans yb; have yc2 := (hb2.cell (p := ⟨w.heap.size + 1, 2, none⟩) hz2).trans yc; have yd2 := (hb2.cell (p := ⟨w.heap.size + 1, 3, none⟩) hz2).trans yd; have ye2 := (hb2.cell (p := ⟨w.heap.size + 1, 4, none⟩) hz2).trans ye)
        | (go_simp; go_at_call 179; (with_reducible refine (hHx.out _ _ _ _ _ (by exact ho2.rs)).mono ?_); rintro e w' ⟨rfl, rfl⟩))) | fail
      all_goals
        go_wp2
        go_ret
        exact ⟨ret_bool hF.out.symm, hbw.out.trans (((Below.refl w1.heap.size w1).drew.trans hb2).mono (by omega))⟩
end Go.Proofs.Ytmhdijklindipaa

namespace Go.Proofs.Ytmhdijklindipaa
open Go.RowKit
set_option linter.unusedVariables false
set_option maxRecDepth 100000

/-- Two boxes beside each other. -/
def Two (t : TypeId) (w : World) (g : Nat) (x y : In) : Prop := CB t w g (In.enc x) ∧ CB t w (g + 1) (In.enc y)
theorem Two.below {t : TypeId} {w w' : World} {g C : Nat} {x y : In} (h : Two t w g x y) (hb : Below C w w') (hC : g + 1 < C) : Two t w' g x y := ⟨CB.below h.1 hb (by omega), CB.below h.2 hb hC⟩
theorem cb_cells {t : TypeId} {w : World} {g : Nat} {x : In} (h : CB t w g (In.enc x)) : w.cell? ⟨g, 0, none⟩ = some (.string x.op) ∧ w.cell? ⟨g, 1, none⟩ = some (.int .i64 x.d) ∧ w.cell? ⟨g, 2, none⟩ = some (.int .i64 x.a) ∧ w.cell? ⟨g, 3, none⟩ = some (.int .i64 x.b) ∧ w.cell? ⟨g, 4, none⟩ = some (.int .i64 x.m) := by
  refine ⟨?_, ?_, ?_, ?_, ?_⟩ <;> (rw [CB.cell h]; rfl)
theorem Two.cells {t : TypeId} {w : World} {g : Nat} {x y : In} (h : Two t w g x y) :
    (w.cell? ⟨g, 0, none⟩ = some (.string x.op) ∧ w.cell? ⟨g, 1, none⟩ = some (.int .i64 x.d) ∧ w.cell? ⟨g, 2, none⟩ = some (.int .i64 x.a) ∧ w.cell? ⟨g, 3, none⟩ = some (.int .i64 x.b) ∧ w.cell? ⟨g, 4, none⟩ = some (.int .i64 x.m)) ∧
    (w.cell? ⟨g + 1, 0, none⟩ = some (.string y.op) ∧ w.cell? ⟨g + 1, 1, none⟩ = some (.int .i64 y.d) ∧ w.cell? ⟨g + 1, 2, none⟩ = some (.int .i64 y.a) ∧ w.cell? ⟨g + 1, 3, none⟩ = some (.int .i64 y.b) ∧ w.cell? ⟨g + 1, 4, none⟩ = some (.int .i64 y.m)) := ⟨cb_cells h.1, cb_cells h.2⟩
theorem two_new (t : TypeId) (w : World) (x y : In) : Two t ((w.alloc (.cells #[.string x.op, .int .i64 x.d, .int .i64 x.a, .int .i64 x.b, .int .i64 x.m] t)).alloc (.cells #[.string y.op, .int .i64 y.d, .int .i64 y.a, .int .i64 y.b, .int .i64 y.m] t)) w.heap.size x y := by
  have h0 : CB t (w.alloc (.cells #[.string x.op, .int .i64 x.d, .int .i64 x.a, .int .i64 x.b, .int .i64 x.m] t)) w.heap.size (In.enc x) := heap_alloc_new w _
  refine ⟨CB.below h0 ((Below.refl _ _).alloc (Nat.le_refl _) _) (by simp), ?_⟩
  have h1 := heap_alloc_new (w.alloc (.cells #[.string x.op, .int .i64 x.d, .int .i64 x.a, .int .i64 x.b, .int .i64 x.m] t)) (.cells #[.string y.op, .int .i64 y.d, .int .i64 y.a, .int .i64 y.b, .int .i64 y.m] t)
  rw [show (w.alloc (.cells #[.string x.op, .int .i64 x.d, .int .i64 x.a, .int .i64 x.b, .int .i64 x.m] t)).heap.size = w.heap.size + 1 by simp] at h1
  exact h1
theorem two_below (w : World) (o o' : Obj) : Below w.heap.size w ((w.alloc o).alloc o') := ((Below.refl w.heap.size w).alloc (Nat.le_refl _) o).alloc (by simp) o'
def indR (x y : In) : Bool := goodIn x && goodIn y && freeB x y
def ResAreIndependent (R0 R1 : Bool) (w : World) (e : Ending) (w' : World) : Prop := e = .returned (.tuple #[.bool R0, .bool R1]) ∧ Below w.heap.size w w'
set_option maxHeartbeats 4000000 in
theorem sAreIndependent_any (x y : In) (w : World) :
    Calls Try.prog 59 #[.agg #[.string x.op, .int .i64 x.d, .int .i64 x.a, .int .i64 x.b, .int .i64 x.m], .agg #[.string y.op, .int .i64 y.d, .int .i64 y.a, .int .i64 y.b, .int .i64 y.m]] w (ResAreIndependent (indR x y) (goodIn x && goodIn y) w) := by
  obtain ⟨op, d, a, b, m⟩ := x
  obtain ⟨op', d', a', b', m'⟩ := y
  have hT0 := Lib.hid (two_new 56 w ⟨op, d, a, b, m⟩ ⟨op', d', a', b', m'⟩)
  have hB0 := Lib.hid (two_below w (.cells #[.string op, .int .i64 d, .int .i64 a, .int .i64 b, .int .i64 m] 56) (.cells #[.string op', .int .i64 d', .int .i64 a', .int .i64 b', .int .i64 m'] 56))
  simp only at hT0
  go_enter Try.func59, Try.ntmps59
  go_wp2_with (fail)
  refine (cdGood_any op d a b m _).mono ?_
  rintro e w1 ⟨rfl, hb⟩
  have hz1 := hb.size
  have hT1 := Lib.hid (hT0.out.below hb (by simp))
  have hB1 := Lib.hid (hB0.out.trans (hb.mono (by simp; omega)))
  clear hb
  cases hg : goodIn ⟨op, d, a, b, m⟩
  · have hR : Hid (indR ⟨op, d, a, b, m⟩ ⟨op', d', a', b', m'⟩ = false) := by simp [Hid, indR, hg]
    have hK : Hid ((goodIn ⟨op, d, a, b, m⟩ && goodIn ⟨op', d', a', b', m'⟩) = false) := by simp [Hid, hg]
    go_wp2
    go_ret2
    rw [hR.out, hK.out]; exact ⟨rfl, hB1.out⟩
  have hG := Lib.hid hg
  clear hg
  obtain ⟨⟨xa, xb, xc, xd, xe⟩, ⟨ya, yb, yc, yd, ye⟩⟩ := hT1.out.cells
  simp only at xa xb xc xd xe ya yb yc yd ye
  go_wp2_with (fail)
  refine (cdGood_any op' d' a' b' m' _).mono ?_
  rintro e w2 ⟨rfl, hb⟩
  clear xa xb xc xd xe ya yb yc yd ye
  have hz2 := hb.size
  simp at hz1
  have hT2 := Lib.hid (hT1.out.below hb (by omega))
  have hB2 := Lib.hid (hB1.out.trans (hb.mono (by omega)))
  clear hb
  cases hg : goodIn ⟨op', d', a', b', m'⟩
  · have hR : Hid (indR ⟨op, d, a, b, m⟩ ⟨op', d', a', b', m'⟩ = false) := by simp [Hid, indR, hg]
    have hK : Hid ((goodIn ⟨op, d, a, b, m⟩ && goodIn ⟨op', d', a', b', m'⟩) = false) := by simp [Hid, hg]
    go_wp2
    go_ret2
    rw [hR.out, hK.out]; exact ⟨rfl, hB2.out⟩
  have hK : Hid ((goodIn ⟨op, d, a, b, m⟩ && goodIn ⟨op', d', a', b', m'⟩) = true) := by rw [Hid, hG.out, hg]; rfl
  have hR : Hid (indR ⟨op, d, a, b, m⟩ ⟨op', d', a', b', m'⟩ = freeB ⟨op, d, a, b, m⟩ ⟨op', d', a', b', m'⟩) := by rw [Hid, indR, hG.out, hg]; rfl
  clear hg
  obtain ⟨⟨xa, xb, xc, xd, xe⟩, ⟨ya, yb, yc, yd, ye⟩⟩ := hT2.out.cells
  simp only at xa xb xc xd xe ya yb yc yd ye
  go_wp2_with (fail)
  refine (cdFree_any ⟨op, d, a, b, m⟩ ⟨op', d', a', b', m'⟩ _).mono ?_
  rintro e w3 ⟨rfl, hb⟩
  have hB3 := Lib.hid (hB2.out.trans (hb.mono (by omega)))
  clear hb xa xb xc xd xe ya yb yc yd ye
  generalize freeB ⟨op, d, a, b, m⟩ ⟨op', d', a', b', m'⟩ = F at *
  go_wp2
  go_ret2
  rw [hR.out, hK.out]; exact ⟨rfl, hB3.out⟩

set_option maxHeartbeats 4000000 in
theorem iAreIndependent_any (x y : In) (w : World) :
    Calls Try.prog 58 #[.agg #[.string x.op, .int .i64 x.d, .int .i64 x.a, .int .i64 x.b, .int .i64 x.m], .agg #[.string y.op, .int .i64 y.d, .int .i64 y.a, .int .i64 y.b, .int .i64 y.m]] w (ResAreIndependent (indR x y) (goodIn x && goodIn y) w) := by
  obtain ⟨op, d, a, b, m⟩ := x
  obtain ⟨op', d', a', b', m'⟩ := y
  have hT0 := Lib.hid (two_new 56 w ⟨op, d, a, b, m⟩ ⟨op', d', a', b', m'⟩)
  have hB0 := Lib.hid (two_below w (.cells #[.string op, .int .i64 d, .int .i64 a, .int .i64 b, .int .i64 m] 56) (.cells #[.string op', .int .i64 d', .int .i64 a', .int .i64 b', .int .i64 m'] 56))
  simp only at hT0
  go_enter Try.func58, Try.ntmps58
  go_wp2_with (fail)
  refine (IsInstr_any op d a b m _).mono ?_
  rintro e w1 ⟨rfl, hb⟩
  have hz1 := hb.size
  have hT1 := Lib.hid (hT0.out.below hb (by simp))
  have hB1 := Lib.hid (hB0.out.trans (hb.mono (by simp; omega)))
  clear hb
  cases hg : goodIn ⟨op, d, a, b, m⟩
  · have hR : Hid (indR ⟨op, d, a, b, m⟩ ⟨op', d', a', b', m'⟩ = false) := by simp [Hid, indR, hg]
    have hK : Hid ((goodIn ⟨op, d, a, b, m⟩ && goodIn ⟨op', d', a', b', m'⟩) = false) := by simp [Hid, hg]
    go_wp2
    go_ret2
    rw [hR.out, hK.out]; exact ⟨rfl, hB1.out⟩
  have hG := Lib.hid hg
  clear hg
  obtain ⟨⟨xa, xb, xc, xd, xe⟩, ⟨ya, yb, yc, yd, ye⟩⟩ := hT1.out.cells
  simp only at xa xb xc xd xe ya yb yc yd ye
  go_wp2_with (fail)
  refine (IsInstr_any op' d' a' b' m' _).mono ?_
  rintro e w2 ⟨rfl, hb⟩
  clear xa xb xc xd xe ya yb yc yd ye
  have hz2 := hb.size
  simp at hz1
  have hT2 := Lib.hid (hT1.out.below hb (by omega))
  have hB2 := Lib.hid (hB1.out.trans (hb.mono (by omega)))
  clear hb
  cases hg : goodIn ⟨op', d', a', b', m'⟩
  · have hR : Hid (indR ⟨op, d, a, b, m⟩ ⟨op', d', a', b', m'⟩ = false) := by simp [Hid, indR, hg]
    have hK : Hid ((goodIn ⟨op, d, a, b, m⟩ && goodIn ⟨op', d', a', b', m'⟩) = false) := by simp [Hid, hg]
    go_wp2
    go_ret2
    rw [hR.out, hK.out]; exact ⟨rfl, hB2.out⟩
  have hK : Hid ((goodIn ⟨op, d, a, b, m⟩ && goodIn ⟨op', d', a', b', m'⟩) = true) := by rw [Hid, hG.out, hg]; rfl
  have hR : Hid (indR ⟨op, d, a, b, m⟩ ⟨op', d', a', b', m'⟩ = freeB ⟨op, d, a, b, m⟩ ⟨op', d', a', b', m'⟩) := by rw [Hid, indR, hG.out, hg]; rfl
  clear hg
  obtain ⟨⟨xa, xb, xc, xd, xe⟩, ⟨ya, yb, yc, yd, ye⟩⟩ := hT2.out.cells
  simp only at xa xb xc xd xe ya yb yc yd ye
  have hF := Lib.hid (free_touch ⟨op, d, a, b, m⟩ ⟨op', d', a', b', m'⟩)
  go_wp2_with (fail)
  refine (isTouching_any ⟨op, d, a, b, m⟩ ⟨op', d', a', b', m'⟩ _).mono ?_
  rintro e w3 ⟨rfl, hb⟩
  clear xa xb xc xd xe ya yb yc yd ye
  have hz3 := hb.size
  have hT3 := Lib.hid (hT2.out.below hb (by omega))
  have hB3 := Lib.hid (hB2.out.trans (hb.mono (by omega)))
  clear hb
  cases ht : touchB ⟨op, d, a, b, m⟩ ⟨op', d', a', b', m'⟩
  · have hF' : Hid (freeB ⟨op, d, a, b, m⟩ ⟨op', d', a', b', m'⟩ = !touchB ⟨op', d', a', b', m'⟩ ⟨op, d, a, b, m⟩) := by rw [Hid, hF.out, ht]; simp
    obtain ⟨⟨xa, xb, xc, xd, xe⟩, ⟨ya, yb, yc, yd, ye⟩⟩ := hT3.out.cells
    simp only at xa xb xc xd xe ya yb yc yd ye
    go_wp2_with (fail)
    refine (isTouching_any ⟨op', d', a', b', m'⟩ ⟨op, d, a, b, m⟩ _).mono ?_
    rintro e w4 ⟨rfl, hb⟩
    have hB4 := Lib.hid (hB3.out.trans (hb.mono (by omega)))
    clear hb xa xb xc xd xe ya yb yc yd ye
    generalize touchB ⟨op', d', a', b', m'⟩ ⟨op, d, a, b, m⟩ = F at *
    go_wp2
    go_ret2
    rw [hR.out, hK.out, hF'.out]; exact ⟨rfl, hB4.out⟩
  · have hF' : Hid (freeB ⟨op, d, a, b, m⟩ ⟨op', d', a', b', m'⟩ = false) := by rw [Hid, hF.out, ht]; simp
    go_wp2
    go_ret2
    rw [hR.out, hK.out, hF'.out]; exact ⟨rfl, hB3.out⟩

end Go.Proofs.Ytmhdijklindipaa

namespace Go.Proofs.Ytmhdijklindipaa
open Go.RowKit
set_option linter.unusedVariables false
set_option maxRecDepth 100000

theorem five_one (y : In) : ∀ u ∈ In.enc y, u.oneCell' = true := by intro u hu; simp [In.enc] at hu; rcases hu with rfl | rfl | rfl | rfl | rfl <;> rfl
theorem five_ones (es : List In) : ∀ u ∈ es.flatMap In.enc, u.oneCell' = true := by
  intro u hu
  obtain ⟨x, _, hx⟩ := List.mem_flatMap.1 hu
  exact five_one x u hx
theorem OK.ofRow {w : World} {lo : Nat} {v : Value} {n : Nat} {xs : List In} (h : w.ownsRow lo 56 5 v n (xs.flatMap In.enc)) (hn : n = xs.length) : OK In.enc 5 56 w lo w.heap.size v xs := by
  subst hn; exact ⟨h, fun j hj => (h.lt j hj).2⟩
set_option maxHeartbeats 1000000 in
/-- slices.Clone of code that lies in memory. -/
theorem CloneC_any (b o c : Nat) (xs : List In) (L B : Nat) (w : World) (hl : xs.length ≤ 1048576) (hx : RS In.enc 5 w L B (some ⟨b, o, none⟩) xs) (hB : B ≤ w.heap.size) :
    Calls Try.prog 168 #[.slice (some ⟨b, o, none⟩) xs.length c] w (FreshInstr w xs) := by
  obtain ⟨i0, hi, hz0, hz1, hz2⟩ := info_parts Try.infoInstr
  have hb0 := Lib.hid ((Below.refl w.heap.size w).alloc (Nat.le_refl _) (.cells #[] 56))
  have hnews := Lib.hid ((hx.below hb0.out hB).news In.hk)
  have hown := Lib.hid (World.ownsRow_made (base := w.heap.size) (e := 56) (size := 5) w #[] 0 (Nat.le_refl _) (by unfold maxLen; omega) (by simp))
  clear hx
  have heq := Lib.run_eql_slice_nil (P := Try.prog) w 42 56 (some ⟨b, o, none⟩) xs.length c 0 0 Try.underlying42
  simp only [Option.isNone_some] at heq
  go_enter Try.func168, Try.ntmps168
  go_wp2_with (at_builtin; refine wpList_append_src rfl _ _ 42 rfl w.heap.size 56 i0 _ 5 48 Try.underlying42 hi hz0 hz1 hz2 rfl (by decide) _ 0 [] rfl hown.out (some ⟨b, o, none⟩) xs.length c (xs.flatMap In.enc) rfl (kflat_len In.hk xs) hnews.out (five_ones xs) (by unfold maxLen; omega) (by omega) (by simp) ?_; intro v' w1 hown' hgrow _)
  simp only [Nat.zero_add, List.nil_append] at hown'
  have ho : Hid (OK In.enc 5 56 w1 w.heap.size w1.heap.size v' xs) := OK.ofRow hown' rfl
  have hb : Hid (Below w.heap.size w w1) := hb0.out.grown hgrow (by simp) (fun k hk => by cases hk; exact Nat.le_refl _)
  obtain ⟨A', c', rfl, _⟩ := OK.form In.hk ho.out
  clear hown' hgrow
  go_wp2
  go_ret
  exact ⟨_, _, rfl, ho.out, hb.out⟩

def swOk (es : List In) (i : Int) : Bool := okCode es && inR i 0 (es.length - 2) && freeB (es.getD i.toNat zeroIn) (es.getD (i.toNat + 1) zeroIn)
def swapR (es : List In) (i : Int) : List In := if swOk es i = true then (es.set i.toNat (es.getD (i.toNat + 1) zeroIn)).set (i.toNat + 1) (es.getD i.toNat zeroIn) else []
theorem swapR_len (es : List In) (i : Int) : (swapR es i).length ≤ 1048576 := by
  unfold swapR; split
  · rename_i h; simp only [swOk, Bool.and_eq_true] at h
    have := okCode_len h.1.1; simp; omega
  · simp
theorem swapR_no {es : List In} {i : Int} (h : swOk es i = false) : swapR es i = [] := by simp [swapR, h]
theorem inR_nat {i : Int} {n : Nat} (h : inR i 0 ((n : Int) - 2) = true) : ∃ k : Nat, i = k ∧ k + 1 < n := by
  rw [inR_iff] at h
  obtain ⟨k, rfl⟩ := Int.eq_ofNat_of_zero_le h.1
  exact ⟨k, rfl, by omega⟩

set_option maxHeartbeats 8000000 in
theorem iSwap_any (L B : Nat) (A : Option Addr) (c : Nat) (es : List In) (i : Int) (w : World) (hl : es.length ≤ 1048576) (hes : RS In.enc 5 w L B A es) (hB : B ≤ w.heap.size) :
    Calls Try.prog 55 #[.slice A es.length c, .int .i64 i] w (ResSwapNeighbours (swapR es i) (swOk es i) w) := by
  have H := Lib.hid (IsCode_any L B A c es w hl hes hB)
  have hE := Lib.hid hes
  have hBB := Lib.hid hB
  have hX := Lib.hid (fun W => isIndex_any i ((es.length : Int) - 1) W)
  rw [show (es.length : Int) - 1 - 1 = es.length - 2 by omega] at hX
  clear hes hB
  go_enter Try.func55, Try.ntmps55
  go_wp2_with (fail)
  refine H.out.mono ?_
  rintro e w2 ⟨rfl, hb⟩
  have hbb := Lib.hid hb
  have hz := hb.size
  have hE2 := Lib.hid (hE.out.below hb hBB.out)
  clear hb
  cases hg : okCode es
  · have hK : Hid (swOk es i = false) := by simp [Hid, swOk, hg]
    have hR := Lib.hid (swapR_no hK.out)
    go_wp2
    go_ret2
    rw [hR.out, hK.out]; exact ⟨none, 0, rfl, OK.nil _ _ _ _, hbb.out⟩
  have hG := Lib.hid hg
  have hlen := Lib.hid (okCode_len hg)
  have hall := Lib.hid (okCode_all hg)
  clear hg
  cases hr : inR i 0 ((es.length : Int) - 2)
  · have hK : Hid (swOk es i = false) := by simp [Hid, swOk, hr]
    have hR := Lib.hid (swapR_no hK.out)
    rw [hr] at hX
    clear hr
    go_wp2_with (go_at_call 167; refine (hX.out _).mono ?_; rintro e w' ⟨rfl, rfl⟩)
    go_ret2
    rw [hR.out, hK.out]; exact ⟨none, 0, rfl, OK.nil _ _ _ _, hbb.out⟩
  obtain ⟨n, rfl, hn⟩ := inR_nat hr
  have hr' := Lib.hid hr
  have hn' : n < es.length := by omega
  rw [hr] at hX
  obtain ⟨b, o, rfl, ⟨_, hbB⟩, hc⟩ := In.cells hE2.out (by omega)
  obtain ⟨c1, c2, c3, c4, c5⟩ := hc n hn'
  obtain ⟨d1, d2, d3, d4, d5⟩ := hc (n + 1) hn
  clear hc hr
  have hg0 : es.getD n zeroIn = es[n] := by rw [List.getD_eq_getElem?_getD, List.getElem?_eq_getElem hn']; rfl
  have hg1 : es.getD (n + 1) zeroIn = es[n + 1] := by rw [List.getD_eq_getElem?_getD, List.getElem?_eq_getElem hn]; rfl
  have hK0 : Hid (swOk es n = freeB es[n] es[n + 1]) := by rw [Hid, swOk, hG.out, hr'.out, Int.toNat_natCast, hg0, hg1]; rfl
  have hR0 : Hid (swOk es n = true → swapR es n = (es.set n es[n + 1]).set (n + 1) es[n]) := by intro h; rw [swapR, if_pos h, Int.toNat_natCast, hg0, hg1]
  have hA := Lib.hid (fun W => iAreIndependent_any es[n] es[n + 1] W)
  have hgd : goodIn es[n] = true ∧ goodIn es[n + 1] = true := ⟨hall.out _ (List.getElem_mem _), hall.out _ (List.getElem_mem _)⟩
  have hI : Hid (indR es[n] es[n + 1] = freeB es[n] es[n + 1] ∧ (goodIn es[n] && goodIn es[n + 1]) = true) := by rw [Hid, indR, hgd.1, hgd.2]; exact ⟨rfl, rfl⟩
  rw [hI.out.1, hI.out.2] at hA
  clear hgd hI hg0 hg1
  have i1 : (n : Int) < es.length := by omega
  have i2 : (n : Int) + 1 < es.length := by omega
  have hw1 : IntKind.i64.wrap ((n : Int) + 1) = (n : Int) + 1 := IntWalk.i64_in _ (by omega)
  have hw2 : ((n : Int) + 1).toNat = n + 1 := by omega
  have i0 : (0 : Int) ≤ (n : Int) + 1 := by omega
  have hCl := Lib.hid (fun W (h : RS In.enc 5 W L B (some ⟨b, o, none⟩) es) (hB : B ≤ W.heap.size) => CloneC_any b o c es L B W hl h hB)
  generalize hx : es[n] = x at *
  generalize hy : es[n + 1] = y at *
  obtain ⟨op, d, a, b1, m⟩ := x
  obtain ⟨op', d', a', b1', m'⟩ := y
  have hxx := Lib.hid hx
  have hyy := Lib.hid hy
  clear hx hy
  simp only at c1 c2 c3 c4 c5 d1 d2 d3 d4 d5 hA
  go_wp2_with (go_at_call 167; refine (hX.out _).mono ?_; rintro e w' ⟨rfl, rfl⟩)
  go_region_law (go_simp; go_at_call 58; (with_reducible refine (hA.out _).mono ?_); rintro e w3 ⟨rfl, hb3⟩)
  all_goals
    have hb3' := Lib.hid ((Below.refl w2.heap.size w2).drew.trans hb3)
    have hbb3 := Lib.hid (hbb.out.trans (hb3'.out.mono hz))
    have hz3 := hb3'.out.size
    have hE3 := Lib.hid (hE2.out.below hb3'.out (by have := hBB.out; omega))
    clear hb3
    cases hf : freeB ⟨op, d, a, b1, m⟩ ⟨op', d', a', b1', m'⟩
    · have hK : Hid (swOk es n = false) := by rw [Hid, hK0.out, hf]
      have hR := Lib.hid (swapR_no hK.out)
      go_wp2
      go_ret2
      rw [hR.out, hK.out]; exact ⟨none, 0, rfl, OK.nil _ _ _ _, hbb3.out⟩
    have hK : Hid (swOk es n = true) := by rw [Hid, hK0.out, hf]
    have hR := Lib.hid (hR0.out hK.out)
    clear hf c1 c2 c3 c4 c5 d1 d2 d3 d4 d5
    go_wp2_with (fail)
    refine (hCl.out _ hE3.out (by have := hBB.out; omega)).mono ?_
    rintro e w4 ⟨A4, k4, rfl, ho4, hb4⟩
    have hz4 := hb4.size
    have hbb4 := Lib.hid (hbb3.out.trans (hb4.mono (by omega)))
    have hE4 := Lib.hid (hE3.out.below hb4 (by have := hBB.out; omega))
    clear hb4
    rcases OK.open ho4 with ⟨_, h0⟩ | ⟨g, cap, hv, hgl, hgh, hlc, hcm, rest, hcb, hcl⟩
    · omega
    injection hv with e1 e2 e3; subst e1; subst e3
    obtain ⟨b2, o2, e5, ⟨_, hbB2⟩, hc⟩ := In.cells hE4.out (by omega)
    injection e5 with e5; injection e5 with e5 e6 _; subst e5; subst e6
    obtain ⟨c1, c2, c3, c4, c5⟩ := hc n hn'
    obtain ⟨d1, d2, d3, d4, d5⟩ := hc (n + 1) hn
    rw [hxx.out] at c1 c2 c3 c4 c5
    rw [hyy.out] at d1 d2 d3 d4 d5
    simp only at c1 c2 c3 c4 c5 d1 d2 d3 d4 d5
    have hCB := Lib.hid hcb
    obtain ⟨z0, z1, z2, z3, z4, p1, p2, p3, p4, p5⟩ := In.cellsB hcb n hn'
    obtain ⟨y0, y1, y2, y3, y4, q1, q2, q3, q4, q5⟩ := In.cellsB hcb (n + 1) hn
    have f1 := hcb.frozen (n * 5)
    have f2 := hcb.frozen (n * 5 + 1)
    have f3 := hcb.frozen (n * 5 + 2)
    have f4 := hcb.frozen (n * 5 + 3)
    have f5 := hcb.frozen (n * 5 + 4)
    have g1 := hcb.frozen ((n + 1) * 5)
    have g2 := hcb.frozen ((n + 1) * 5 + 1)
    have g3 := hcb.frozen ((n + 1) * 5 + 2)
    have g4 := hcb.frozen ((n + 1) * 5 + 3)
    have g5 := hcb.frozen ((n + 1) * 5 + 4)
    have hgb : Hid (b ≠ g) := by have := hBB.out; simp only [Hid]; omega
    have hne : ¬ b = g := hgb.out
    have hne' : ¬ g = b := fun h => hne h.symm
    clear hc hcb ho4
    go_wp2_with (fail)
    go_region_with (fail)
    all_goals
      have h1 := hCB.out.store In.hk n hn' ⟨op', d', a', b1', m'⟩
      have h2 := h1.store In.hk (n + 1) (by rw [List.length_set]; exact hn) ⟨op, d, a, b1, m⟩
      have hle : ((es.set n (⟨op', d', a', b1', m'⟩ : In)).set (n + 1) ⟨op, d, a, b1, m⟩).length = es.length := by rw [List.length_set, List.length_set]
      have h3 := OK.close (lo := w.heap.size) In.hk h2 (by omega) (CB.lt h2) (by rw [hle]; exact hlc) hcm (by rw [List.length_append, kflat_len In.hk, hle]; rw [List.length_append, kflat_len In.hk] at hcl; exact hcl)
      have hfin := Lib.hid h3
      have hle' := Lib.hid hle
      have hbf := Lib.hid (below_setCells (In.enc ⟨op, d, a, b1, m⟩) g ((n + 1) * 5) (below_setCells (In.enc ⟨op', d', a', b1', m'⟩) g (n * 5) hbb4.out (by omega)) (by omega))
      clear h1 h2 h3 hle
      simp only [setCells, In.enc, Nat.add_assoc, Nat.reduceAdd] at hfin hbf
      clear c1 c2 c3 c4 c5 d1 d2 d3 d4 d5 p1 p2 p3 p4 p5 q1 q2 q3 q4 q5 f1 f2 f3 f4 f5 g1 g2 g3 g4 g5 hCB
      generalize (World.setCell _ _ _) = W at hfin hbf ⊢
      generalize ((es.set n (⟨op', d', a', b1', m'⟩ : In)).set (n + 1) ⟨op, d, a, b1, m⟩) = Z at *
      go_wp2
      go_ret2
      rw [hR.out, hK.out]
      refine ⟨some ⟨g, 0, none⟩, k4, by rw [hle'.out]; rfl, ?_, ?_⟩
      · exact hfin.out
      · exact hbf.out.drew
end Go.Proofs.Ytmhdijklindipaa

/- Drawn code, registers, lists of registers. -/
namespace Go.Proofs.Ytmhdijklindipaa
open Go.RowKit
set_option linter.unusedVariables false
set_option maxRecDepth 100000

theorem five_newD {w : World} {g : Nat} (y : In) (hg : w.heap.size = g) : ∀ j u, (In.enc y)[j]? = some u → (w.alloc (.cells #[.string y.op, .int .i64 y.d, .int .i64 y.a, .int .i64 y.b, .int .i64 y.m] 56)).cell? ((⟨g, 0, none⟩ : Addr).add j) = some u := by
  intro j u hu
  subst hg
  have hc : CB 56 (w.alloc (.cells #[.string y.op, .int .i64 y.d, .int .i64 y.a, .int .i64 y.b, .int .i64 y.m] 56)) w.heap.size (In.enc y) := heap_alloc_new w _
  rw [addr_add]
  exact (hc.cell j).trans hu
theorem Chg.grownD {lo hi : Nat} {w W W' : World} {row : Option Nat} (h : Chg lo hi w W) (hg : W.grownBy W' row) (hr : ∀ k, row = some k → w.heap.size ≤ k) : Chg lo hi w W' :=
  ⟨hg.os.trans h.os, hg.tape.trans h.tape, hg.output.trans h.output, Nat.le_trans h.size hg.size, fun i hi hn => (hg.block i (Nat.lt_of_lt_of_le hi h.size) (fun e => by have := hr i e.symm; omega)).trans (h.block i hi hn)⟩
theorem Cur.grownD {W W' : World} {g K : Nat} {row : Option Nat} (h : Cur W g K) (hg : W.grownBy W' row) (hr : ∀ k, row = some k → g < k) : Cur W' g K :=
  h.keep fun j hj => hg.block j (Nat.lt_of_le_of_lt hj h.lt) (fun e => by have := hr j e.symm; omega)
/-- What a draw of code hands back. -/
def DrC (w : World) (g K N : Nat) (e : Ending) (w' : World) : Prop := ∃ (xs : List In) (A : Option Addr) (c : Nat), e = .returned (.slice A xs.length c) ∧ xs.length ≤ N ∧ xs.length ≤ c ∧ (∀ x ∈ xs, x.op.size ≤ 100) ∧ OK In.enc 5 56 w' w.heap.size w'.heap.size (.slice A xs.length c) xs ∧ Cur w' g K ∧ Chg g (g + 1) w w'
theorem OK.capD {t : TypeId} {w : World} {lo hi n c : Nat} {A : Option Addr} {xs : List In} (h : OK In.enc 5 t w lo hi (.slice A n c) xs) : xs.length ≤ c := by
  rcases h.1.2 with ⟨hv, h1⟩ | ⟨g, cap, cur, hv, _, _, h1, _⟩
  · injection hv with e1 e2 e3; omega
  · injection hv with e1 e2 e3; omega
theorem OK.nilD (w : World) (lo hi : Nat) : OK In.enc 5 56 w lo hi (.slice none 0 0) [] := OK.nil _ _ _ _
set_option maxHeartbeats 4000000 in
theorem code2_any (g K : Nat) (most : Nat) (regs : Int) (w : World) (hK : K ≤ 500000000) (hm : most ≤ 20) (hr : regs ≤ 100) (hc : Cur w g K) :
    Calls Try.prog 233 #[.pointer (some ⟨g, 0, none⟩), .int .i64 most, .int .i64 regs] w (DrC w g (K + 300) most) := by
  obtain ⟨i0, hi', hz0', hz1', hz2'⟩ := info_parts Try.infoInstr
  have hJ0 := Lib.hid hi'
  have hJ1 := Lib.hid hz0'
  have hJ2 := Lib.hid hz1'
  have hJ3 := Lib.hid hz2'
  clear hi' hz0' hz1' hz2'
  have hw1 : IntKind.i64.wrap ((most : Int) + 1) = (most : Int) + 1 := IntWalk.i64_in _ (by omega)
  have HP := Lib.hid (pick_any g K ((most : Int) + 1) w (by omega) (by omega) hc)
  have HI := Lib.hid fun (K : Nat) (W : World) (hK : K ≤ 700000000) (hc : Cur W g K) => instr_any g K regs W hK hr hc
  have hgw : Hid (g < w.heap.size) := hc.lt
  clear hc
  go_enter Try.func233, Try.ntmps233
  go_wp2_with (fail)
  refine HP.out.mono ?_
  rintro e w1 ⟨x, rfl, hx, hcu, hch⟩
  obtain ⟨n, rfl⟩ := Int.eq_ofNat_of_zero_le hx.1
  have hn : n ≤ most := by omega
  have hC1 := Lib.hid hcu
  have hH1 := Lib.hid hch
  clear hcu hch hx HP
  go_wp2
  go_loopw [7, 8] (fun v q wr => ∃ (k : Nat) (xs : List In), q = .int .i64 k ∧ k + xs.length = n ∧ (∀ x ∈ xs, x.op.size ≤ 100) ∧ OK In.enc 5 56 wr w.heap.size wr.heap.size v xs ∧ Cur wr g (K + 2 + 14 * xs.length) ∧ Chg g (g + 1) w wr) (fun _ q _ => (intOf q).toNat)
  case atStart => exact ⟨n, [], rfl, by simp, fun x hx => by simp at hx, OK.nilD _ _ _, hC1.out, hH1.out⟩
  case round =>
    obtain ⟨k, xs, rfl, hkn, hsz, hok, hcu, hch⟩ := hrel
    have hS := Lib.hid hsz
    have hCu := Lib.hid hcu
    have hHc := Lib.hid hch
    obtain ⟨VA, vc, rfl, _⟩ := OK.form In.hk hok
    have hO := Lib.hid hok
    clear hsz hcu hch hok
    rcases Nat.eq_zero_or_pos k with rfl | hpos
    · have hcap := OK.capD hO.out
      have hCf := Lib.hid (hCu.out.more (show K + 2 + 14 * xs.length ≤ K + 300 by omega))
      go_wp2
      go_ret
      exact ⟨xs, VA, vc, rfl, by omega, hcap, hS.out, hO.out, hCf.out, hHc.out⟩
    · obtain ⟨p, rfl⟩ : ∃ p, k = p + 1 := ⟨k - 1, by omega⟩
      have hp1 : (0 : Int) < ((p + 1 : Nat) : Int) := by omega
      have hw9 : IntKind.i64.wrap (((p + 1 : Nat) : Int) - 1) = (p : Int) := by rw [IntWalk.i64_in _ (by omega)]; omega
      have HX := Lib.hid (HI.out (K + 2 + 14 * xs.length) wr (by omega) hCu.out)
      have hxl : xs.length ≤ 20 := by omega
      have hpb : p ≤ 20 := by omega
      have hkn9 := Lib.hid hkn
      clear hkn
      go_wp2_with (fail)
      refine HX.out.mono ?_
      rintro e w2 ⟨⟨op, d, a, b, m⟩, rfl, hs1, hcu, hch⟩
      have hO2 : OK In.enc 5 56 w2 w.heap.size w2.heap.size (.slice VA xs.length vc) xs := (hO.out.chg hch (.inr (by have := hgw.out; omega))).more hch.size
      have hlo := Lib.hid hO2.lo
      have ho2 := Lib.hid (hO2.1.alloc (.cells #[.string op, .int .i64 d, .int .i64 a, .int .i64 b, .int .i64 m] 56))
      have hC2 := Lib.hid (hcu.below ((Below.refl w2.heap.size w2).alloc (Nat.le_refl _) (.cells #[.string op, .int .i64 d, .int .i64 a, .int .i64 b, .int .i64 m] 56)))
      have hH2 := Lib.hid ((hHc.out.trans hch).alloc (.cells #[.string op, .int .i64 d, .int .i64 a, .int .i64 b, .int .i64 m] 56))
      have hs2 := Lib.hid hs1
      have hzw := hH2.out.size
      clear hO2 hcu hch hs1 hO hCu hHc
      dsimp only
      go_wp2_with (at_builtin; go_loud (refine wpList_append_own _ rfl _ _ 42 rfl w.heap.size 56 i0 _ 5 48 Try.underlying42 hJ0.out hJ1.out hJ2.out hJ3.out rfl (by decide) _ xs.length _ rfl ho2.out ⟨w2.heap.size, 0, none⟩ 1 1 (In.enc ⟨op, d, a, b, m⟩) rfl rfl (five_newD ⟨op, d, a, b, m⟩ rfl) (five_one _) (by unfold maxLen; omega) (by omega) hzw ?_); intro v' w7 hown7 hgr7 _)
      have hX7 := Lib.hid (show OK In.enc 5 56 w7 w.heap.size w7.heap.size v' (xs ++ [⟨op, d, a, b, m⟩]) from OK.ofRow (by rw [List.flatMap_append]; simpa using hown7) (by simp))
      have hC7 := Lib.hid (hC2.out.grownD hgr7 (fun q hq => by have := (hlo.out q hq).1; have := hgw.out; omega))
      have hH7 := Lib.hid (hH2.out.grownD hgr7 (fun q hq => (hlo.out q hq).1))
      clear hown7 hgr7
      go_wp2
      go_roundw
      case rel =>
        refine ⟨p, _, by go_num, by have := hkn9.out; simp; omega, fun x hx => ?_, hX7.out, by have h := hC7.out; rw [List.length_append, List.length_singleton]; exact h.more (by omega), hH7.out⟩
        rcases List.mem_append.1 hx with hx | hx
        · exact hS.out x hx
        · rw [List.mem_singleton.1 hx]; exact hs2.out
      case measure => simp [intOf] <;> omega

set_option maxHeartbeats 8000000 in
theorem anyCode_any (g K : Nat) (most : Nat) (w : World) (hK : K ≤ 400000000) (hm : most ≤ 20) (hc : Cur w g K) :
    Calls Try.prog 134 #[.pointer (some ⟨g, 0, none⟩), .int .i64 most] w (DrC w g (K + 1200) 41) := by
  obtain ⟨i0, hi', hz0', hz1', hz2'⟩ := info_parts Try.infoInstr
  have hJ0 := Lib.hid hi'
  have hJ1 := Lib.hid hz0'
  have hJ2 := Lib.hid hz1'
  have hJ3 := Lib.hid hz2'
  clear hi' hz0' hz1' hz2'
  have HP := Lib.hid fun (K : Nat) (n : Int) (W : World) (hK : K ≤ 900000000) (hn : n ≤ 10000) (hc : Cur W g K) => pick_any g K n W hK hn hc
  have HI := Lib.hid fun (K : Nat) (W : World) (hK : K ≤ 700000000) (hc : Cur W g K) => instr_any g K 3 W hK (by omega) hc
  have HA := Lib.hid fun (K : Nat) (W : World) (hK : K ≤ 600000000) (hc : Cur W g K) => anyInstr_any g K W hK hc
  have HC := Lib.hid fun (K : Nat) (r : Int) (W : World) (hK : K ≤ 500000000) (hr : r ≤ 100) (hc : Cur W g K) => code2_any g K most r W hK hm hr hc
  have hgw : Hid (g < w.heap.size) := hc.lt
  have hC0 := Lib.hid hc
  clear hc
  go_enter Try.func134, Try.ntmps134
  go_wp2_with (fail)
  refine (HP.out K 5 w (by omega) (by omega) hC0.out).mono ?_
  rintro e w1 ⟨x, rfl, hx, hcu, hch⟩
  have hH1 := Lib.hid hch
  have hw1 : IntKind.i64.wrap (2 + x) = 2 + x := IntWalk.i64_in _ (by omega)
  have H2 := Lib.hid (HC.out (K + 2) (2 + x) w1 (by omega) (by omega) hcu)
  clear hcu hch
  go_wp2_with (fail)
  refine H2.out.mono ?_
  rintro e w2 ⟨xs, A, c, rfl, hxl, hxc, hsz, hok, hcu, hch⟩
  have hS := Lib.hid hsz
  have hO := Lib.hid (hok.lower hH1.out.size)
  have hH2 := Lib.hid (hH1.out.trans hch)
  have H3 := Lib.hid (HP.out (K + 2 + 300) 14 w2 (by omega) (by omega) hcu)
  clear hsz hok hcu hch H2 hx hw1 hH1 HC hC0
  go_wp2_with (fail)
  refine H3.out.mono ?_
  rintro e w3 ⟨p, rfl, hp, hcu, hch⟩
  have hO3 := Lib.hid (show OK In.enc 5 56 w3 w.heap.size w3.heap.size (.slice A xs.length c) xs from (hO.out.chg hch (.inr (by have := hgw.out; omega))).more hch.size)
  have hC3 := Lib.hid hcu
  have hH3 := Lib.hid (hH2.out.trans hch)
  have hP := Lib.hid hp
  clear hcu hch hp hO hH2 H3
  by_cases q0 : p = 0
  · subst q0
    have HX := Lib.hid (HA.out (K + 304) w3 (by omega) hC3.out)
    go_wp2_with (fail)
    refine HX.out.mono ?_
    rintro e w4 ⟨⟨op, d, a, b, m⟩, rfl, hs1, hcu, hch⟩
    have hO2 : OK In.enc 5 56 w4 w.heap.size w4.heap.size (.slice A xs.length c) xs := (hO3.out.chg hch (.inr (by have := hgw.out; omega))).more hch.size
    have hlo := Lib.hid hO2.lo
    have ho2 := Lib.hid (hO2.1.alloc (.cells #[.string op, .int .i64 d, .int .i64 a, .int .i64 b, .int .i64 m] 56))
    have hC2 := Lib.hid (hcu.below ((Below.refl w4.heap.size w4).alloc (Nat.le_refl _) (.cells #[.string op, .int .i64 d, .int .i64 a, .int .i64 b, .int .i64 m] 56)))
    have hH2 := Lib.hid ((hH3.out.trans hch).alloc (.cells #[.string op, .int .i64 d, .int .i64 a, .int .i64 b, .int .i64 m] 56))
    have hs2 := Lib.hid hs1
    have hzw := hH2.out.size
    clear hO2 hcu hch hs1 hO3 hC3 hH3 HX
    dsimp only
    go_wp2_with (at_builtin; go_loud (refine wpList_append_own _ rfl _ _ 42 rfl w.heap.size 56 i0 _ 5 48 Try.underlying42 hJ0.out hJ1.out hJ2.out hJ3.out rfl (by decide) _ xs.length _ rfl ho2.out ⟨w4.heap.size, 0, none⟩ 1 1 (In.enc ⟨op, d, a, b, m⟩) rfl rfl (five_newD ⟨op, d, a, b, m⟩ rfl) (five_one _) (by unfold maxLen; omega) (by omega) hzw ?_); intro v' w7 hown7 hgr7 _)
    have hX7 := Lib.hid (show OK In.enc 5 56 w7 w.heap.size w7.heap.size v' (xs ++ [⟨op, d, a, b, m⟩]) from OK.ofRow (by rw [List.flatMap_append]; simpa using hown7) (by simp))
    have hC7 := Lib.hid (hC2.out.grownD hgr7 (fun q hq => by have := (hlo.out q hq).1; have := hgw.out; omega))
    have hH7 := Lib.hid (hH2.out.grownD hgr7 (fun q hq => (hlo.out q hq).1))
    clear hown7 hgr7
    obtain ⟨VA, vc, rfl, _⟩ := OK.form In.hk hX7.out
    have hcap := OK.capD hX7.out
    go_wp2
    go_ret
    refine ⟨_, VA, vc, rfl, by simp; omega, hcap, fun x hx => ?_, hX7.out, hC7.out.more (by omega), hH7.out⟩
    rcases List.mem_append.1 hx with hx | hx
    · exact hS.out x hx
    · rw [List.mem_singleton.1 hx]; exact hs2.out
  by_cases q1 : p = 1
  · subst q1
    go_wp2
    clear q0
    go_loopw [5] (fun v wr => ∃ (ys : List In), ys.length ≤ 41 ∧ (∀ x ∈ ys, x.op.size ≤ 100) ∧ OK In.enc 5 56 wr w.heap.size wr.heap.size v ys ∧ Cur wr g (K + 304 + 16 * ys.length) ∧ Chg g (g + 1) w wr) (fun v _ => match v with | .slice _ n _ => 41 - n | _ => 0)
    case atStart => exact ⟨xs, by omega, hS.out, hO3.out, hC3.out.more (by omega), hH3.out⟩
    case round =>
      clear hS hO3 hC3 hH3
      obtain ⟨ys, hyl, hsz, hok, hcu, hch⟩ := hrel
      have hS := Lib.hid hsz
      have hHc := Lib.hid hch
      obtain ⟨VA, vc, rfl, _⟩ := OK.form In.hk hok
      have hO := Lib.hid hok
      have H4 := Lib.hid (HP.out (K + 304 + 16 * ys.length) 2 wr (by omega) (by omega) hcu)
      clear hsz hcu hch hok
      go_wp2_with (fail)
      refine H4.out.mono ?_
      rintro e w4 ⟨y, rfl, hy, hcu, hch⟩
      have hw1 : IntKind.i64.wrap (40 + y) = 40 + y := IntWalk.i64_in _ (by omega)
      have hO4 := Lib.hid (show OK In.enc 5 56 w4 w.heap.size w4.heap.size (.slice VA ys.length vc) ys from (hO.out.chg hch (.inr (by have := hgw.out; omega))).more hch.size)
      have hC4 := Lib.hid hcu
      have hH4 := Lib.hid (hHc.out.trans hch)
      clear hcu hch hO hHc H4
      by_cases hlt : (ys.length : Int) < 40 + y
      · have HX := Lib.hid (HI.out (K + 304 + 16 * ys.length + 2) w4 (by omega) hC4.out)
        have hyl2 : ys.length < 41 := by omega
        go_wp2_with (fail)
        refine HX.out.mono ?_
        rintro e w5 ⟨⟨op, d, a, b, m⟩, rfl, hs1, hcu, hch⟩
        have hO2 : OK In.enc 5 56 w5 w.heap.size w5.heap.size (.slice VA ys.length vc) ys := (hO4.out.chg hch (.inr (by have := hgw.out; omega))).more hch.size
        have hlo := Lib.hid hO2.lo
        have ho2 := Lib.hid (hO2.1.alloc (.cells #[.string op, .int .i64 d, .int .i64 a, .int .i64 b, .int .i64 m] 56))
        have hC2 := Lib.hid (hcu.below ((Below.refl w5.heap.size w5).alloc (Nat.le_refl _) (.cells #[.string op, .int .i64 d, .int .i64 a, .int .i64 b, .int .i64 m] 56)))
        have hH2 := Lib.hid ((hH4.out.trans hch).alloc (.cells #[.string op, .int .i64 d, .int .i64 a, .int .i64 b, .int .i64 m] 56))
        have hs2 := Lib.hid hs1
        have hzw := hH2.out.size
        clear hO2 hcu hch hs1 hO4 hC4 hH4 HX
        dsimp only
        go_wp2_with (at_builtin; go_loud (refine wpList_append_own _ rfl _ _ 42 rfl w.heap.size 56 i0 _ 5 48 Try.underlying42 hJ0.out hJ1.out hJ2.out hJ3.out rfl (by decide) _ ys.length _ rfl ho2.out ⟨w5.heap.size, 0, none⟩ 1 1 (In.enc ⟨op, d, a, b, m⟩) rfl rfl (five_newD ⟨op, d, a, b, m⟩ rfl) (five_one _) (by unfold maxLen; omega) (by omega) hzw ?_); intro v' w7 hown7 hgr7 _)
        have hX7 := Lib.hid (show OK In.enc 5 56 w7 w.heap.size w7.heap.size v' (ys ++ [⟨op, d, a, b, m⟩]) from OK.ofRow (by rw [List.flatMap_append]; simpa using hown7) (by simp))
        have hC7 := Lib.hid (hC2.out.grownD hgr7 (fun q hq => by have := (hlo.out q hq).1; have := hgw.out; omega))
        have hH7 := Lib.hid (hH2.out.grownD hgr7 (fun q hq => (hlo.out q hq).1))
        clear hown7 hgr7
        obtain ⟨VA', vc', rfl, _⟩ := OK.form In.hk hX7.out
        go_wp2
        go_roundw
        case rel =>
          refine ⟨_, by simp; omega, fun x hx => ?_, hX7.out, by rw [List.length_append, List.length_singleton]; exact hC7.out.more (by omega), hH7.out⟩
          rcases List.mem_append.1 hx with hx | hx
          · exact hS.out x hx
          · rw [List.mem_singleton.1 hx]; exact hs2.out
        case measure => simp; omega
      · have hcap := OK.capD hO4.out
        go_wp2
        go_ret
        exact ⟨_, VA, vc, rfl, by omega, hcap, hS.out, hO4.out, hC4.out.more (by omega), hH4.out⟩
  have q0' := Lib.hid q0
  have q1' := Lib.hid q1
  have e0 : (p == 0) = false := by have := q0'.out; simpa using this
  have e1 : (p == 1) = false := by have := q1'.out; simpa using this
  clear q0 q1
  have hcap := OK.capD hO3.out
  go_wp2
  go_ret
  exact ⟨_, A, c, rfl, by omega, hcap, hS.out, hO3.out, hC3.out.more (by omega), hH3.out⟩
end Go.Proofs.Ytmhdijklindipaa

/- Drawn expressions, and what is near one. -/
namespace Go.Proofs.Ytmhdijklindipaa
open Go.RowKit
set_option linter.unusedVariables false
set_option maxRecDepth 100000

theorem flat_set4 : ∀ (xs : List Nd) (rest : List Value) (i f : Nat) (u : Value) (y : Nd), f < 4 → (hi : i < xs.length) → (Nd.enc xs[i]).set f u = Nd.enc y → (xs.flatMap Nd.enc ++ rest).set (i * 4 + f) u = (xs.set i y).flatMap Nd.enc ++ rest
  | [], _, i, _, _, _, _, hi, _ => by simp at hi
  | a :: l, rest, 0, f, u, y, hf, _, hy => by
    rw [List.flatMap_cons, List.append_assoc, Nat.zero_mul, Nat.zero_add, List.set_append_left _ _ (by rw [Nd.hk]; exact hf)]
    show _ = (y :: l).flatMap Nd.enc ++ rest
    rw [List.flatMap_cons, List.append_assoc]
    have hy : (Nd.enc a).set f u = Nd.enc y := hy
    rw [hy]
  | a :: l, rest, i + 1, f, u, y, hf, hi, hy => by
    have ih := flat_set4 l rest i f u y hf (by simpa using hi) (by simpa using hy)
    rw [List.flatMap_cons, List.append_assoc, List.set_append_right _ _ (by rw [Nd.hk]; omega), Nd.hk, show (i + 1) * 4 + f - 4 = i * 4 + f by omega, ih]
    show _ = (a :: l.set i y).flatMap Nd.enc ++ rest
    rw [List.flatMap_cons, List.append_assoc]
/-- One cell of a node of an own slice: it is there, and may be written. -/
theorem OK.putN {w : World} {lo hi n c : Nat} {A : Option Addr} {xs : List Nd} (h : OK Nd.enc 4 40 w lo hi (.slice A n c) xs) (h0 : 0 < xs.length) :
    ∃ g, A = some ⟨g, 0, none⟩ ∧ lo ≤ g ∧ g < hi ∧ ∀ i f : Nat, i < xs.length → f < 4 → (∃ old, w.cell? ⟨g, i * 4 + f, none⟩ = some old) ∧ w.frozen? ⟨g, i * 4 + f, none⟩ = false ∧
      ∀ (u : Value) (y : Nd), (∀ hi : i < xs.length, (Nd.enc xs[i]).set f u = Nd.enc y) → OK Nd.enc 4 40 (w.setCell ⟨g, i * 4 + f, none⟩ u) lo hi (.slice (some ⟨g, 0, none⟩) n c) (xs.set i y) := by
  rcases OK.open h with ⟨_, e⟩ | ⟨g, cap, e, h1, h2, h3, h4, rest, h5, h6⟩
  · omega
  · injection e with e1 e2 e3
    subst e1; subst e2; subst e3
    refine ⟨g, rfl, h1, h2, fun i f hik hf => ⟨?_, h5.frozen _, fun u y hy => ?_⟩⟩
    · have hl := kflat_len Nd.hk xs
      exact ⟨(xs.flatMap Nd.enc ++ rest)[i * 4 + f]'(by rw [List.length_append]; omega), by rw [h5.cell, List.getElem?_eq_getElem]⟩
    · have h7 := h5.set (i * 4 + f) u
      rw [flat_set4 xs rest i f u y hf hik (hy hik)] at h7
      have hl := OK.close (lo := lo) (hi := hi) (cap := c) Nd.hk h7 h1 h2 (by rw [List.length_set]; exact h3) h4 (by
        rw [← flat_set4 xs rest i f u y hf hik (hy hik), List.length_set]; exact h6)
      rw [List.length_set] at hl
      exact hl
theorem OK.ofRowN {w : World} {lo : Nat} {v : Value} {n : Nat} {xs : List Nd} (h : w.ownsRow lo 40 4 v n (xs.flatMap Nd.enc)) (hn : n = xs.length) : OK Nd.enc 4 40 w lo w.heap.size v xs := by
  subst hn; exact ⟨h, fun j hj => (h.lt j hj).2⟩
theorem OK.capN {t : TypeId} {w : World} {lo hi n c : Nat} {A : Option Addr} {xs : List Nd} (h : OK Nd.enc 4 t w lo hi (.slice A n c) xs) : xs.length ≤ c := by
  rcases h.1.2 with ⟨hv, h1⟩ | ⟨g, cap, cur, hv, _, _, h1, _⟩
  · injection hv with e1 e2 e3; omega
  · injection hv with e1 e2 e3; omega
theorem FrK.chgT {g q : Nat} {w W w' : World} (h : FrK (fun j => j = g ∨ j = q) none W w') (hc : Chg g (g + 1) w W) (hq : w.heap.size ≤ q) : Chg g (g + 1) w w' :=
  ⟨h.os.trans hc.os, h.tape.trans hc.tape, h.output.trans hc.output, Nat.le_trans hc.size h.size, fun i hi hn => (h.block i (Nat.lt_of_lt_of_le hi hc.size) (by omega) (by simp)).trans (hc.block i hi hn)⟩
/-- What a draw of an expression hands back. -/
def DrE (w : World) (g K M N : Nat) (e : Ending) (w' : World) : Prop := ∃ (xs : List Nd) (A : Option Addr) (c : Nat), e = .returned (.slice A xs.length c) ∧ M ≤ xs.length ∧ xs.length ≤ N ∧ OK Nd.enc 4 40 w' w.heap.size w'.heap.size (.slice A xs.length c) xs ∧ Cur w' g K ∧ Chg g (g + 1) w w'
def inN : Nd := ⟨⟨#[105, 110]⟩, 0, 0, 0⟩
set_option maxHeartbeats 8000000 in
theorem expr_any (d g K : Nat) (w : World) (hd : d ≤ 100) (hN : tN d ≤ 80000) (hK : K ≤ 300000000) (hc : Cur w g K) :
    Calls Try.prog 226 #[.pointer (some ⟨g, 0, none⟩), .int .i64 (d : Int)] w (DrE w g (K + 2 + 40 * tN d) 1 (tN d)) := by
  have HO := Lib.hid (one_any g K 2 w (by omega) (by omega) hc)
  have hgw := Lib.hid hc.lt
  have hp := tN_pos d
  clear hc
  go_enter Try.func226, Try.ntmps226
  go_wp2_with (fail)
  refine HO.out.mono ?_
  rintro e w1 ⟨b, rfl, hc1, hch1⟩
  have hG : Hid (GS 174 [] w1.heap.size w1.heap.size [] b (.slice none 0 0) (w1.alloc (.cells #[.slice none 0 0, .bool b] 174))) := GS.nil 174 [] b w1.heap.size w1
  have hC := Lib.hid (hc1.below ((Below.refl w1.heap.size w1).alloc (Nat.le_refl _) (.cells #[.slice none 0 0, .bool b] 174)))
  have hH := Lib.hid (hch1.alloc (.cells #[.slice none 0 0, .bool b] 174))
  have hg1 := Lib.hid hc1.lt
  have hs1 := Lib.hid hch1.size
  have HT := Lib.hid (tree_any d g w1.heap.size w1.heap.size (K + 2) [] b (.slice none 0 0) (w1.alloc (.cells #[.slice none 0 0, .bool b] 174)) hd (by omega) (by simp; omega) (TS9.refl hG.out hC.out ⟨hg1.out, hg1.out, by simp⟩))
  clear hc1 hch1 HO hG hC
  go_wp2_with (fail)
  refine HT.out.mono ?_
  rintro e w3 ⟨x, v, ys, rfl, h3⟩
  have hH3 := Lib.hid (h3.fr.chgT hH.out hs1.out)
  have hL3 := Lib.hid h3.le.2
  obtain ⟨A, c, rfl⟩ := h3.gs.form
  have k0 := h3.gs.c0
  have hG3 := Lib.hid h3.gs
  have hC3 := Lib.hid h3.cu
  obtain ⟨A', c', he, hns⟩ := OK.form Nd.hk h3.gs.ok
  injection he with he1 _ he3
  subst he1; subst he3
  have HE := Lib.hid (exGood_any w1.heap.size w3.heap.size A c ys w3 (by have := h3.le.2; simp at this; omega) hns.ns (Nat.le_refl _))
  clear h3 HT hH hns
  go_wp2_with (fail)
  refine HE.out.mono ?_
  rintro e w4 ⟨rfl, hbe⟩
  have hG4 := hG3.out.next hbe
  have k4 := hG4.c0
  have hO4 := Lib.hid (hG4.ok.lower hs1.out)
  have hC4 := Lib.hid (hC3.out.below hbe)
  have hH4 := Lib.hid (hH3.out.trans (Chg.ofBelow hbe))
  have hgl := Lib.hid (fun h : good ys = true => (good_len h).1)
  clear hbe hG4 hG3 hC3 hH3 HE k0
  generalize good ys = gd at *
  cases gd
  · have B5 := (Below.refl w4.heap.size w4).alloc (Nat.le_refl _) (.cells #[.string ⟨#[105, 110]⟩, .int .i64 0, .int .i64 0, .int .i64 0] 40)
    have hO5 : Hid (OK Nd.enc 4 40 (w4.alloc (.cells #[.string ⟨#[105, 110]⟩, .int .i64 0, .int .i64 0, .int .i64 0] 40)) w.heap.size (w4.heap.size + 1) (.slice (some ⟨w4.heap.size, 0, none⟩) [inN].length 1) [inN]) :=
      KB.toOK (enc := Nd.enc) (k := 4) Nd.hk (heap_alloc_new w4 _) (by decide) hH4.out.size (Nat.lt_succ_self _)
    have hC5 := Lib.hid (hC4.out.below B5)
    have hH5 := Lib.hid (hH4.out.trans (Chg.ofBelow B5))
    clear B5 hO4 hC4 hH4 k4
    go_wp2
    go_ret
    exact ⟨[inN], _, _, rfl, by simp, by simp; omega, by have h := hO5.out; simpa using h, hC5.out, hH5.out⟩
  · have h1 := Lib.hid (hgl.out rfl)
    clear hgl
    go_wp2
    go_ret
    exact ⟨ys, A, c, rfl, h1.out, by have := hL3.out; simpa using this, hO4.out, hC4.out, hH4.out⟩

def ops6 : List ByteArray := [⟨#[]⟩, ⟨#[105, 110]⟩, ⟨#[99, 111, 110, 115, 116]⟩, ⟨#[97, 110, 100]⟩, ⟨#[110, 97, 110, 100]⟩, ⟨#[110, 111, 116]⟩]
theorem ops6_cells : (ops6.flatMap encD).toArray = #[.string ⟨#[]⟩, .string ⟨#[105, 110]⟩, .string ⟨#[99, 111, 110, 115, 116]⟩, .string ⟨#[97, 110, 100]⟩, .string ⟨#[110, 97, 110, 100]⟩, .string ⟨#[110, 111, 116]⟩] := rfl
def vals6 : List Int := [-1, 0, 1, 2, 63, 64]

set_option maxHeartbeats 16000000 in
theorem anyExpr_any (d g K : Nat) (w : World) (hd : d ≤ 100) (hN : tN d ≤ 63) (hK : K ≤ 200000000) (hc : Cur w g K) :
    Calls Try.prog 120 #[.pointer (some ⟨g, 0, none⟩), .int .i64 (d : Int)] w (DrE w g (K + 40 * tN d + 100) 0 64) := by
  obtain ⟨i0, hi', hz0', hz1', hz2'⟩ := info_parts Try.infoNode
  have hJ0 := Lib.hid hi'
  have hJ1 := Lib.hid hz0'
  have hJ2 := Lib.hid hz1'
  have hJ3 := Lib.hid hz2'
  clear hi' hz0' hz1' hz2'
  have HP := Lib.hid fun (K : Nat) (n : Int) (W : World) (hK : K ≤ 900000000) (hn : n ≤ 10000) (hc : Cur W g K) => pick_any g K n W hK hn hc
  have HE := Lib.hid (expr_any d g K w hd (by omega) (by omega) hc)
  have hgw : Hid (g < w.heap.size) := hc.lt
  clear hc
  go_enter Try.func120, Try.ntmps120
  go_wp2_with (fail)
  refine HE.out.mono ?_
  rintro e w1 ⟨xs, A, c, rfl, h1, hn, hok, hcu, hch⟩
  have hO1 := Lib.hid hok
  have hH1 := Lib.hid hch
  have H2 := Lib.hid (HP.out (K + 2 + 40 * tN d) 16 w1 (by omega) (by omega) hcu)
  clear hok hcu hch HE
  go_wp2_with (fail)
  refine H2.out.mono ?_
  rintro e w3 ⟨p, rfl, hp, hcu, hch⟩
  have hO3 := Lib.hid (show OK Nd.enc 4 40 w3 w.heap.size w3.heap.size (.slice A xs.length c) xs from (hO1.out.chg hch (.inr (by have := hgw.out; omega))).more hch.size)
  have hC3 := Lib.hid hcu
  have hH3 := Lib.hid (hH1.out.trans hch)
  have hP := Lib.hid hp
  clear hcu hch hp hO1 hH1 H2
  by_cases q0 : p = 0
  · subst q0
    have HQ := Lib.hid (HP.out (K + 2 + 40 * tN d + 2) (xs.length : Int) w3 (by omega) (by omega) hC3.out)
    go_wp2_with (fail)
    refine HQ.out.mono ?_
    rintro e w4 ⟨y, rfl, hy, hcu, hch⟩
    have hO4 := Lib.hid (show OK Nd.enc 4 40 w4 w.heap.size w4.heap.size (.slice A xs.length c) xs from (hO3.out.chg hch (.inr (by have := hgw.out; omega))).more hch.size)
    have hC4 := Lib.hid hcu
    have hH4 := Lib.hid (hH3.out.trans hch)
    clear hcu hch HQ
    obtain ⟨k, rfl⟩ := Int.eq_ofNat_of_zero_le hy.1
    have hk : k < xs.length := by omega
    have hki : (k : Int) < (xs.length : Int) := by omega
    have hk0 : (0 : Int) ≤ (k : Int) := by omega
    clear hO3 hC3 hH3 hy
    have hw2 : IntKind.i64.wrap ((xs.length : Int) + 2) = (xs.length : Int) + 2 := IntWalk.i64_in _ (by omega)
    have HQ := Lib.hid (HP.out (K + 2 + 40 * tN d + 2 + 2) ((xs.length : Int) + 2) w4 (by omega) (by omega) hC4.out)
    go_wp2_with (fail)
    refine HQ.out.mono ?_
    rintro e w5 ⟨z, rfl, hz, hcu, hch⟩
    have hO5 := Lib.hid (show OK Nd.enc 4 40 w5 w.heap.size w5.heap.size (.slice A xs.length c) xs from (hO4.out.chg hch (.inr (by have := hgw.out; omega))).more hch.size)
    have hC5 := Lib.hid hcu
    have hH5 := Lib.hid (hH4.out.trans hch)
    clear hcu hch HQ
    have hw3 : IntKind.i64.wrap (z - 1) = z - 1 := IntWalk.i64_in _ (by omega)
    clear hO4 hC4 hH4
    obtain ⟨gA, rfl, hlo, _, hput⟩ := OK.putN hO5.out (by omega)
    obtain ⟨⟨old, c1⟩, f1, hset⟩ := hput k 1 hk (by omega)
    have hO6 := Lib.hid (hset (.int .i64 (z - 1)) (⟨(xs[k]'hk).op, z - 1, (xs[k]'hk).b, (xs[k]'hk).v⟩) (fun hi => rfl))
    have hC6 := Lib.hid (hC5.out.far (p := ⟨gA, k * 4 + 1, none⟩) (by show g < gA; have := hgw.out; omega) (.int .i64 (z - 1)))
    have hH6 := Lib.hid (hH5.out.newD (p := ⟨gA, k * 4 + 1, none⟩) hlo (.int .i64 (z - 1)))
    clear hput hset hO5 hC5 hH5 hlo
    go_wp2
    go_ret
    exact ⟨xs.set k (⟨(xs[k]'hk).op, z - 1, (xs[k]'hk).b, (xs[k]'hk).v⟩), some ⟨gA, 0, none⟩, c, by rw [List.length_set]; rfl, Nat.zero_le _, by rw [List.length_set]; omega, by rw [List.length_set]; exact hO6.out.more (by simp [World.setCell]), hC6.out.more (by omega), hH6.out⟩
  by_cases q1 : p = 1
  · subst q1
    have HQ := Lib.hid (HP.out (K + 2 + 40 * tN d + 2) (xs.length : Int) w3 (by omega) (by omega) hC3.out)
    go_wp2_with (fail)
    refine HQ.out.mono ?_
    rintro e w4 ⟨y, rfl, hy, hcu, hch⟩
    have hO4 := Lib.hid (show OK Nd.enc 4 40 w4 w.heap.size w4.heap.size (.slice A xs.length c) xs from (hO3.out.chg hch (.inr (by have := hgw.out; omega))).more hch.size)
    have hC4 := Lib.hid hcu
    have hH4 := Lib.hid (hH3.out.trans hch)
    clear hcu hch HQ
    obtain ⟨k, rfl⟩ := Int.eq_ofNat_of_zero_le hy.1
    have hk : k < xs.length := by omega
    have hki : (k : Int) < (xs.length : Int) := by omega
    have hk0 : (0 : Int) ≤ (k : Int) := by omega
    clear hO3 hC3 hH3 hy
    obtain ⟨k1, k2, k3, k4⟩ := lit_cur hC4.out hH4.out (.cells (ops6.flatMap encD).toArray 9)
    have HL := Lib.hid (of_any g (K + 2 + 40 * tN d + 2 + 2) w4.heap.size (w4.heap.size + 1) (some ⟨w4.heap.size, 0, none⟩) 6 6 ops6 _ rfl (by omega) k1 (by decide) (by decide) (lit_ss w4 ops6) k3 k4)
    have B4 := (Below.refl w4.heap.size w4).alloc (Nat.le_refl _) (.cells (ops6.flatMap encD).toArray 9)
    have hO4' := Lib.hid (show OK Nd.enc 4 40 (w4.alloc (.cells (ops6.flatMap encD).toArray 9)) w.heap.size (w4.alloc (.cells (ops6.flatMap encD).toArray 9)).heap.size (.slice A xs.length c) xs from (hO4.out.below B4 (Nat.le_refl _)).more B4.size)
    have hH4' := Lib.hid k2
    clear k1 k2 k3 k4 B4 hO4 hC4 hH4
    rw [ops6_cells] at HL hO4' hH4'
    go_wp2_with (fail)
    refine HL.out.mono ?_
    rintro e w5 ⟨s, rfl, _, hcu, hch⟩
    have hO5 := Lib.hid (show OK Nd.enc 4 40 w5 w.heap.size w5.heap.size (.slice A xs.length c) xs from (hO4'.out.chg hch (.inr (by have := hgw.out; omega))).more hch.size)
    have hC5 := Lib.hid hcu
    have hH5 := Lib.hid (hH4'.out.trans hch)
    clear hcu hch HL hO4' hH4'
    obtain ⟨gA, rfl, hlo, _, hput⟩ := OK.putN hO5.out (by omega)
    obtain ⟨⟨old, c1⟩, f1, hset⟩ := hput k 0 hk (by omega)
    have hO6 := Lib.hid (hset (.string s) (⟨s, (xs[k]'hk).a, (xs[k]'hk).b, (xs[k]'hk).v⟩) (fun hi => rfl))
    have hC6 := Lib.hid (hC5.out.far (p := ⟨gA, k * 4 + 0, none⟩) (by show g < gA; have := hgw.out; omega) (.string s))
    have hH6 := Lib.hid (hH5.out.newD (p := ⟨gA, k * 4 + 0, none⟩) hlo (.string s))
    clear hput hset hO5 hC5 hH5 hlo
    rw [Nat.add_zero] at c1 f1 hO6 hC6 hH6
    go_wp2
    go_ret
    exact ⟨xs.set k (⟨s, (xs[k]'hk).a, (xs[k]'hk).b, (xs[k]'hk).v⟩), some ⟨gA, 0, none⟩, c, by rw [List.length_set]; rfl, Nat.zero_le _, by rw [List.length_set]; omega, by rw [List.length_set]; exact hO6.out.more (by simp [World.setCell]), hC6.out.more (by omega), hH6.out⟩
  by_cases q2 : p = 2
  · subst q2
    have HQ := Lib.hid (HP.out (K + 2 + 40 * tN d + 2) (xs.length : Int) w3 (by omega) (by omega) hC3.out)
    go_wp2_with (fail)
    refine HQ.out.mono ?_
    rintro e w4 ⟨y, rfl, hy, hcu, hch⟩
    have hO4 := Lib.hid (show OK Nd.enc 4 40 w4 w.heap.size w4.heap.size (.slice A xs.length c) xs from (hO3.out.chg hch (.inr (by have := hgw.out; omega))).more hch.size)
    have hC4 := Lib.hid hcu
    have hH4 := Lib.hid (hH3.out.trans hch)
    clear hcu hch HQ
    obtain ⟨k, rfl⟩ := Int.eq_ofNat_of_zero_le hy.1
    have hk : k < xs.length := by omega
    have hki : (k : Int) < (xs.length : Int) := by omega
    have hk0 : (0 : Int) ≤ (k : Int) := by omega
    clear hO3 hC3 hH3 hy
    obtain ⟨k1, k2, k3, k4⟩ := lit_cur hC4.out hH4.out (.cells (intCells vals6) 3)
    have HL := Lib.hid (among_any g (K + 2 + 40 * tN d + 2 + 2) w4.heap.size (w4.heap.size + 1) (some ⟨w4.heap.size, 0, none⟩) 6 6 vals6 _ rfl (by omega) k1 (by decide) (by decide) (lit_is w4 vals6) k3 k4)
    have B4 := (Below.refl w4.heap.size w4).alloc (Nat.le_refl _) (.cells (intCells vals6) 3)
    have hO4' := Lib.hid (show OK Nd.enc 4 40 (w4.alloc (.cells (intCells vals6) 3)) w.heap.size (w4.alloc (.cells (intCells vals6) 3)).heap.size (.slice A xs.length c) xs from (hO4.out.below B4 (Nat.le_refl _)).more B4.size)
    have hH4' := Lib.hid k2
    clear k1 k2 k3 k4 B4 hO4 hC4 hH4
    go_wp2_with (fail)
    refine HL.out.mono ?_
    rintro e w5 ⟨s, rfl, _, hcu, hch⟩
    have hO5 := Lib.hid (show OK Nd.enc 4 40 w5 w.heap.size w5.heap.size (.slice A xs.length c) xs from (hO4'.out.chg hch (.inr (by have := hgw.out; omega))).more hch.size)
    have hC5 := Lib.hid hcu
    have hH5 := Lib.hid (hH4'.out.trans hch)
    clear hcu hch HL hO4' hH4'
    obtain ⟨gA, rfl, hlo, _, hput⟩ := OK.putN hO5.out (by omega)
    obtain ⟨⟨old, c1⟩, f1, hset⟩ := hput k 3 hk (by omega)
    have hO6 := Lib.hid (hset (.int .i64 s) (⟨(xs[k]'hk).op, (xs[k]'hk).a, (xs[k]'hk).b, s⟩) (fun hi => rfl))
    have hC6 := Lib.hid (hC5.out.far (p := ⟨gA, k * 4 + 3, none⟩) (by show g < gA; have := hgw.out; omega) (.int .i64 s))
    have hH6 := Lib.hid (hH5.out.newD (p := ⟨gA, k * 4 + 3, none⟩) hlo (.int .i64 s))
    clear hput hset hO5 hC5 hH5 hlo
    go_wp2
    go_ret
    exact ⟨xs.set k (⟨(xs[k]'hk).op, (xs[k]'hk).a, (xs[k]'hk).b, s⟩), some ⟨gA, 0, none⟩, c, by rw [List.length_set]; rfl, Nat.zero_le _, by rw [List.length_set]; omega, by rw [List.length_set]; exact hO6.out.more (by simp [World.setCell]), hC6.out.more (by omega), hH6.out⟩
  by_cases q3 : p = 3
  · subst q3
    have hlo := Lib.hid hO3.out.lo
    have ho2 := Lib.hid (hO3.out.1.alloc (.cells #[.string ⟨#[105, 110]⟩, .int .i64 0, .int .i64 0, .int .i64 0] 40))
    have hC8 := Lib.hid (hC3.out.below ((Below.refl w3.heap.size w3).alloc (Nat.le_refl _) (.cells #[.string ⟨#[105, 110]⟩, .int .i64 0, .int .i64 0, .int .i64 0] 40)))
    have hH8 := Lib.hid (hH3.out.alloc (.cells #[.string ⟨#[105, 110]⟩, .int .i64 0, .int .i64 0, .int .i64 0] 40))
    have hzw := hH8.out.size
    clear hO3 hC3 hH3
    go_wp2_with (at_builtin; go_loud (refine wpList_append_own _ rfl _ _ 24 rfl w.heap.size 40 i0 _ 4 40 Try.underlying24 hJ0.out hJ1.out hJ2.out hJ3.out rfl (by decide) _ xs.length _ rfl ho2.out ⟨w3.heap.size, 0, none⟩ 1 1 (Nd.enc inN) rfl rfl (four_new inN rfl) (four_one _) (by unfold maxLen; omega) (by omega) hzw ?_); intro v' w7 hown7 hgr7 _)
    have hX7 := Lib.hid (show OK Nd.enc 4 40 w7 w.heap.size w7.heap.size v' (xs ++ [inN]) from OK.ofRowN (by rw [List.flatMap_append]; simpa using hown7) (by simp))
    have hC7 := Lib.hid (hC8.out.grownD hgr7 (fun q hq => by have := (hlo.out q hq).1; have := hgw.out; omega))
    have hH7 := Lib.hid (hH8.out.grownD hgr7 (fun q hq => (hlo.out q hq).1))
    clear hown7 hgr7 hC8 hH8 ho2 hlo
    obtain ⟨VA, vc, rfl, _⟩ := OK.form Nd.hk hX7.out
    go_wp2
    go_ret
    exact ⟨_, VA, vc, rfl, by simp, by simp; omega, hX7.out, hC7.out.more (by omega), hH7.out⟩
  by_cases q4 : p = 4
  · subst q4
    have B5 := (Below.refl w3.heap.size w3).alloc (Nat.le_refl _) (.cells #[.string ⟨#[105, 110]⟩, .int .i64 0, .int .i64 0, .int .i64 0] 40)
    have hO5 : Hid (OK Nd.enc 4 40 (w3.alloc (.cells #[.string ⟨#[105, 110]⟩, .int .i64 0, .int .i64 0, .int .i64 0] 40)) w.heap.size (w3.heap.size + 1) (.slice (some ⟨w3.heap.size, 0, none⟩) [inN].length 1) [inN]) := KB.toOK (enc := Nd.enc) (k := 4) Nd.hk (heap_alloc_new w3 _) (by decide) hH3.out.size (Nat.lt_succ_self _)
    have hC5 := Lib.hid (hC3.out.below B5)
    have hH5 := Lib.hid (hH3.out.trans (Chg.ofBelow B5))
    clear B5 hO3 hC3 hH3 q0 q1 q2 q3
    go_wp2
    go_loopw [5] (fun v wr => ∃ (ys : List Nd), 1 ≤ ys.length ∧ ys.length ≤ 25 ∧ OK Nd.enc 4 40 wr w.heap.size wr.heap.size v ys ∧ Cur wr g (K + 2 + 40 * tN d + 2 + 2 * ys.length) ∧ Chg g (g + 1) w wr) (fun v _ => match v with | .slice _ n _ => 25 - n | _ => 0)
    case atStart => exact ⟨[inN], by simp, by simp, by have h := hO5.out; simpa using h, hC5.out.more (by simp), hH5.out⟩
    case round =>
      clear hO5 hC5 hH5
      obtain ⟨ys, hy1, hyl, hok, hcu, hch⟩ := hrel
      have hH6 := Lib.hid hch
      have hO6 := Lib.hid hok
      have hC6 := Lib.hid hcu
      obtain ⟨VA, vc, rfl, _⟩ := OK.form Nd.hk hok
      clear hok hcu hch
      have HQ := Lib.hid (HP.out (K + 2 + 40 * tN d + 2 + 2 * ys.length) 2 wr (by omega) (by omega) hC6.out)
      go_wp2_with (fail)
      refine HQ.out.mono ?_
      rintro e w9 ⟨z, rfl, hz, hcu, hch⟩
      have hO9 := Lib.hid (show OK Nd.enc 4 40 w9 w.heap.size w9.heap.size (.slice VA ys.length vc) ys from (hO6.out.chg hch (.inr (by have := hgw.out; omega))).more hch.size)
      have hC9 := Lib.hid hcu
      have hH9 := Lib.hid (hH6.out.trans hch)
      clear hcu hch HQ
      clear hO6 hC6 hH6
      have hw1 : IntKind.i64.wrap (24 + z) = 24 + z := IntWalk.i64_in _ (by omega)
      have hw2 : IntKind.i64.wrap ((ys.length : Int) - 1) = (ys.length : Int) - 1 := IntWalk.i64_in _ (by omega)
      by_cases hlt : (ys.length : Int) < 24 + z
      · have hyl2 : ys.length < 25 := by omega
        have hlo := Lib.hid hO9.out.lo
        have ho2 := Lib.hid (hO9.out.1.alloc (.cells #[.string ⟨#[97, 100, 100]⟩, .int .i64 ((ys.length : Int) - 1), .int .i64 ((ys.length : Int) - 1), .int .i64 0] 40))
        have hC8 := Lib.hid (hC9.out.below ((Below.refl w9.heap.size w9).alloc (Nat.le_refl _) (.cells #[.string ⟨#[97, 100, 100]⟩, .int .i64 ((ys.length : Int) - 1), .int .i64 ((ys.length : Int) - 1), .int .i64 0] 40)))
        have hH8 := Lib.hid (hH9.out.alloc (.cells #[.string ⟨#[97, 100, 100]⟩, .int .i64 ((ys.length : Int) - 1), .int .i64 ((ys.length : Int) - 1), .int .i64 0] 40))
        have hzw := hH8.out.size
        clear hO9 hC9 hH9
        go_wp2_with (at_builtin; go_loud (refine wpList_append_own _ rfl _ _ 24 rfl w.heap.size 40 i0 _ 4 40 Try.underlying24 hJ0.out hJ1.out hJ2.out hJ3.out rfl (by decide) _ ys.length _ rfl ho2.out ⟨w9.heap.size, 0, none⟩ 1 1 (Nd.enc ⟨⟨#[97, 100, 100]⟩, (ys.length : Int) - 1, (ys.length : Int) - 1, 0⟩) rfl rfl (four_new ⟨⟨#[97, 100, 100]⟩, (ys.length : Int) - 1, (ys.length : Int) - 1, 0⟩ rfl) (four_one _) (by unfold maxLen; omega) (by omega) hzw ?_); intro v' w7 hown7 hgr7 _)
        have hX7 := Lib.hid (show OK Nd.enc 4 40 w7 w.heap.size w7.heap.size v' (ys ++ [⟨⟨#[97, 100, 100]⟩, (ys.length : Int) - 1, (ys.length : Int) - 1, 0⟩]) from OK.ofRowN (by rw [List.flatMap_append]; simpa using hown7) (by simp))
        have hC7 := Lib.hid (hC8.out.grownD hgr7 (fun q hq => by have := (hlo.out q hq).1; have := hgw.out; omega))
        have hH7 := Lib.hid (hH8.out.grownD hgr7 (fun q hq => (hlo.out q hq).1))
        clear hown7 hgr7 hC8 hH8 ho2 hlo
        obtain ⟨VA', vc', rfl, _⟩ := OK.form Nd.hk hX7.out
        go_wp2
        go_roundw
        case rel => exact ⟨_, by simp, by simp; omega, hX7.out, by rw [List.length_append, List.length_singleton]; exact hC7.out.more (by omega), hH7.out⟩
        case measure => simp; omega
      · go_wp2
        go_ret
        exact ⟨_, VA, vc, rfl, by omega, by omega, hO9.out, hC9.out.more (by omega), hH9.out⟩
  by_cases q5 : p = 5
  · subst q5
    go_wp2
    go_ret
    exact ⟨[], none, 0, rfl, Nat.le_refl _, by simp, OK.nil _ _ _ _, hC3.out.more (by omega), hH3.out⟩
  have e0 : (p == 0) = false := by simpa using q0
  have e1 : (p == 1) = false := by simpa using q1
  have e2 : (p == 2) = false := by simpa using q2
  have e3 : (p == 3) = false := by simpa using q3
  have e4 : (p == 4) = false := by simpa using q4
  have e5 : (p == 5) = false := by simpa using q5
  clear q0 q1 q2 q3 q4 q5
  go_wp2
  go_ret
  exact ⟨_, A, c, rfl, by omega, by omega, hO3.out, hC3.out.more (by omega), hH3.out⟩
end Go.Proofs.Ytmhdijklindipaa
