import Derived.Test.YtcfmfbgnfpgpgaaKC
import Derived.WalkKit
import Derived.WalkSpells
import Derived.WalkLawsBesides
import Derived.Deep.RegionHeld3
import Derived.Lib.Hide
/- The law over two known bits by value. -/
namespace Go.Proofs.Ytcfmfbgnfpgpgaa
open Go.RowKit
set_option linter.unusedVariables false
set_option maxRecDepth 100000

/-- Four cells, told of a world. -/
theorem four_next {X w' : World} {g : Nat} {a b c d : Value} (hb : Below X.heap.size X w') (h : X.cell? ⟨g, 0, none⟩ = some a ∧ X.cell? ⟨g, 1, none⟩ = some b ∧ X.cell? ⟨g + 1, 0, none⟩ = some c ∧ X.cell? ⟨g + 1, 1, none⟩ = some d) :
    w'.cell? ⟨g, 0, none⟩ = some a ∧ w'.cell? ⟨g, 1, none⟩ = some b ∧ w'.cell? ⟨g + 1, 0, none⟩ = some c ∧ w'.cell? ⟨g + 1, 1, none⟩ = some d := by
  obtain ⟨h0, h1, h2, h3⟩ := h
  have l0 := World.block_lt_of_cell? X _ h0
  have l2 := World.block_lt_of_cell? X _ h2
  exact ⟨(hb.cell (p := ⟨g, 0, none⟩) l0).trans h0, (hb.cell (p := ⟨g, 1, none⟩) l0).trans h1, (hb.cell (p := ⟨g + 1, 0, none⟩) l2).trans h2, (hb.cell (p := ⟨g + 1, 1, none⟩) l2).trans h3⟩
theorem four_alloc {X : World} {g : Nat} {a b c d : Value} (o : Obj) (h : X.cell? ⟨g, 0, none⟩ = some a ∧ X.cell? ⟨g, 1, none⟩ = some b ∧ X.cell? ⟨g + 1, 0, none⟩ = some c ∧ X.cell? ⟨g + 1, 1, none⟩ = some d) :
    (X.alloc o).cell? ⟨g, 0, none⟩ = some a ∧ (X.alloc o).cell? ⟨g, 1, none⟩ = some b ∧ (X.alloc o).cell? ⟨g + 1, 0, none⟩ = some c ∧ (X.alloc o).cell? ⟨g + 1, 1, none⟩ = some d :=
  four_next ((Below.refl _ _).alloc (Nat.le_refl _) o) h
theorem four_put {X : World} {g B : Nat} {a b c d x y : Value} (hB : g + 1 < B) (h : X.cell? ⟨g, 0, none⟩ = some a ∧ X.cell? ⟨g, 1, none⟩ = some b ∧ X.cell? ⟨g + 1, 0, none⟩ = some c ∧ X.cell? ⟨g + 1, 1, none⟩ = some d) :
    ((X.setCell ⟨B, 0, none⟩ x).setCell ⟨B, 1, none⟩ y).cell? ⟨g, 0, none⟩ = some a ∧ ((X.setCell ⟨B, 0, none⟩ x).setCell ⟨B, 1, none⟩ y).cell? ⟨g, 1, none⟩ = some b ∧
    ((X.setCell ⟨B, 0, none⟩ x).setCell ⟨B, 1, none⟩ y).cell? ⟨g + 1, 0, none⟩ = some c ∧ ((X.setCell ⟨B, 0, none⟩ x).setCell ⟨B, 1, none⟩ y).cell? ⟨g + 1, 1, none⟩ = some d := by
  have k : ∀ p : Addr, p.block < B → ((X.setCell ⟨B, 0, none⟩ x).setCell ⟨B, 1, none⟩ y).cell? p = X.cell? p := fun p hp =>
    World.cell?_of_block ((Below.heap_setCell _ ⟨B, 1, none⟩ _ p.block (by show p.block ≠ B; omega)).trans (Below.heap_setCell _ ⟨B, 0, none⟩ _ p.block (by show p.block ≠ B; omega)))
  obtain ⟨h0, h1, h2, h3⟩ := h
  exact ⟨(k ⟨g, 0, none⟩ (by show g < B; omega)).trans h0, (k ⟨g, 1, none⟩ (by show g < B; omega)).trans h1, (k ⟨g + 1, 0, none⟩ hB).trans h2, (k ⟨g + 1, 1, none⟩ hB).trans h3⟩
theorem IB.put_other {w : World} {g B : Nat} {t : TypeId} {z o : Int} {a b : Value} (h : IB w g t [z, o]) (hne : g ≠ B) : IB ((w.setCell ⟨B, 0, none⟩ a).setCell ⟨B, 1, none⟩ b) g t [z, o] :=
  (Below.heap_setCell _ ⟨B, 1, none⟩ _ g (by show g ≠ B; exact hne)).trans ((Below.heap_setCell _ ⟨B, 0, none⟩ _ g (by show g ≠ B; exact hne)).trans h)
theorem IB.al {w : World} {g : Nat} {t : TypeId} {xs : List Int} (h : IB w g t xs) (o : Obj) : IB (w.alloc o) g t xs := h.below ((Below.refl _ _).alloc (Nat.le_refl _) o) h.lt
theorem IB.next {w w' : World} {g : Nat} {t : TypeId} {xs : List Int} (h : IB w g t xs) (hb : Below w.heap.size w w') : IB w' g t xs := h.below hb h.lt
theorem bnext {w w' w'' : World} (h : Below w.heap.size w w') (hb : Below w'.heap.size w' w'') : Below w.heap.size w w'' := h.trans (hb.mono h.size)
theorem balloc {w w' : World} (h : Below w.heap.size w w') (o : Obj) : Below w.heap.size w (w'.alloc o) := h.alloc h.size o

set_option maxHeartbeats 16000000 in
theorem lawJoinKnown (z o z' o' : Int) (w : World) :
    Calls Try.prog 14 #[.agg #[.int .i64 z, .int .i64 o], .agg #[.int .i64 z', .int .i64 o']] w fun e w' => e = .returned (.bool true) ∧ Below w.heap.size w w' := by
  obtain ⟨W1, hW1⟩ : ∃ W1, W1 = w.alloc (.cells #[.int .i64 z, .int .i64 o] 49) := ⟨_, rfl⟩
  have z1 : W1.heap.size = w.heap.size + 1 := by rw [hW1]; simp
  have b1 : Below w.heap.size w W1 := by rw [hW1]; exact (Below.refl _ _).alloc (Nat.le_refl _) _
  have k1 : IB W1 w.heap.size 49 [z, o] := by rw [hW1]; exact kbox _ _ _ _
  obtain ⟨W2, hW2⟩ : ∃ W2, W2 = W1.alloc (.cells #[.int .i64 z', .int .i64 o'] 49) := ⟨_, rfl⟩
  have z2 : W2.heap.size = w.heap.size + 1 + 1 := by rw [hW2]; simp [z1]
  have c2 : Below W1.heap.size W1 W2 := by rw [hW2]; exact (Below.refl _ _).alloc (Nat.le_refl _) _
  have b2 : Below w.heap.size w W2 := b1.trans (c2.mono b1.size)
  have k2 := Lib.hid (k1.below c2 (by omega))
  have m2 : Hid (IB W2 (w.heap.size + 1) 49 [z', o']) := by unfold Hid; rw [hW2, ← z1]; exact kbox _ _ _ _
  have e2 : W2 = (w.alloc (.cells #[.int .i64 z, .int .i64 o] 49)).alloc (.cells #[.int .i64 z', .int .i64 o'] 49) := by rw [hW2, hW1]
  have y2 : w.heap.size + 1 < W2.drew.heap.size := by show w.heap.size + 1 < W2.heap.size; omega
  have bd := Lib.hid b2.drew
  clear hW1 hW2 b1 k1 c2 z1 z2 b2
  have HT := Lib.hid fun W => toKnown_any z o W
  have HU := Lib.hid fun W => toKnown_any z' o' W
  have HS := Lib.hid fun W => sJoinKnown_any z o z' o' W
  have HI := Lib.hid fun W => iJoinKnown_any z o z' o' W
  generalize jkZ z o z' o' = p at *
  generalize jkO z o z' o' = q at *
  generalize jkB z o z' o' = s at *
  obtain ⟨d0, d1⟩ := k2.out.two
  obtain ⟨d2, d3⟩ := m2.out.two
  have es : (s != s) = false := by simp
  go_enter Try.func14, Try.ntmps14
  go_wp2_with (fail)
  rw [← e2]
  clear e2
  go_region_held3 (fun w' => w'.cell? ⟨w.heap.size, 0, none⟩ = some (.int .i64 z) ∧ w'.cell? ⟨w.heap.size, 1, none⟩ = some (.int .i64 o) ∧ w'.cell? ⟨w.heap.size + 1, 0, none⟩ = some (.int .i64 z') ∧ w'.cell? ⟨w.heap.size + 1, 1, none⟩ = some (.int .i64 o'))
    (first
      | exact ⟨d0, d1, d2, d3⟩
      | assumption
      | exact four_next (by assumption) (by assumption)
      | exact four_next h3a ⟨d0, d1, d2, d3⟩
      | exact four_alloc _ (by assumption)
      | exact four_alloc _ ⟨d0, d1, d2, d3⟩
      | exact four_put y2 (by assumption)
      | exact four_put (Nat.lt_of_lt_of_le y2 h3a.size) (by assumption)
      | exact four_put (Nat.lt_of_lt_of_le y2 (Nat.le_trans h3a.size h3b.size)) (by assumption)
      | exact four_alloc _ (four_next h3c (four_next h3b (four_next h3a ⟨d0, d1, d2, d3⟩)))
      | go_keep)
    ((first
      | (go_at_call 47; (with_reducible refine (HT.out _).mono ?_); rintro e w3a ⟨rfl, h3a⟩)
      | (go_at_call 47; (with_reducible refine (HU.out _).mono ?_); rintro e w3b ⟨rfl, h3b⟩)
      | (go_at_call 49; (with_reducible refine (HS.out _).mono ?_); rintro e w3c ⟨rfl, h3c⟩; (first
          | (have N3 := IB.next (IB.next (IB.next (kbox W2.drew 0 0 51) h3a) h3b) h3c; have n30 : w3c.cell? ⟨W2.heap.size, 0, none⟩ = some (.int .i64 0) := N3.two.1; have n31 : w3c.cell? ⟨W2.heap.size, 1, none⟩ = some (.int .i64 0) := N3.two.2; have n32 : w3c.frozen? ⟨W2.heap.size, 0, none⟩ = false := N3.fz.1; have n33 : w3c.frozen? ⟨W2.heap.size, 1, none⟩ = false := N3.fz.2)
          | (have N3 := IB.next (IB.next (kbox w3a 0 0 51) h3b) h3c; have n30 := N3.two.1; have n31 := N3.two.2; have n32 := N3.fz.1; have n33 := N3.fz.2)
          | (have N3 := IB.next (kbox w3b 0 0 51) h3c; have n30 := N3.two.1; have n31 := N3.two.2; have n32 := N3.fz.1; have n33 := N3.fz.2)
          | skip))))
  all_goals as_aux_lemma =>
    first
    | (have F3 : Hid (IB ((w3c.setCell ⟨W2.heap.size, 0, none⟩ (.int .i64 p)).setCell ⟨W2.heap.size, 1, none⟩ (.int .i64 q)) W2.heap.size 51 [p, q]) := N3.put2 p q; have B3 : Hid (Below w.heap.size w ((w3c.setCell ⟨W2.heap.size, 0, none⟩ (.int .i64 p)).setCell ⟨W2.heap.size, 1, none⟩ (.int .i64 q))) := below_put2 (bnext (bnext (bnext (balloc bd.out _) h3a) h3b) h3c) bd.out.size _ _; generalize (World.setCell (World.setCell w3c _ _) _ _) = w3f at *)
    | (have F3 : Hid (IB ((w3c.setCell ⟨w3a.heap.size, 0, none⟩ (.int .i64 p)).setCell ⟨w3a.heap.size, 1, none⟩ (.int .i64 q)) w3a.heap.size 51 [p, q]) := N3.put2 p q; have B3 : Hid (Below w.heap.size w ((w3c.setCell ⟨w3a.heap.size, 0, none⟩ (.int .i64 p)).setCell ⟨w3a.heap.size, 1, none⟩ (.int .i64 q))) := below_put2 (bnext (bnext (balloc (bnext bd.out h3a) _) h3b) h3c) (Nat.le_trans bd.out.size h3a.size) _ _; generalize (World.setCell (World.setCell w3c _ _) _ _) = w3f at *)
    | (have F3 : Hid (IB ((w3c.setCell ⟨w3b.heap.size, 0, none⟩ (.int .i64 p)).setCell ⟨w3b.heap.size, 1, none⟩ (.int .i64 q)) w3b.heap.size 51 [p, q]) := N3.put2 p q; have B3 : Hid (Below w.heap.size w ((w3c.setCell ⟨w3b.heap.size, 0, none⟩ (.int .i64 p)).setCell ⟨w3b.heap.size, 1, none⟩ (.int .i64 q))) := below_put2 (bnext (balloc (bnext (bnext bd.out h3a) h3b) _) h3c) (Nat.le_trans (Nat.le_trans bd.out.size h3a.size) h3b.size) _ _; generalize (World.setCell (World.setCell w3c _ _) _ _) = w3f at *)
    | (have F3 := Lib.hid (kbox w3c p q 51); have B3 := Lib.hid (balloc (bnext (bnext (bnext bd.out h3a) h3b) h3c) (.cells #[.int .i64 p, .int .i64 q] 51)); generalize (World.alloc w3c _) = w3f at *)
    clear h3a h3b h3c
    try clear n30 n31 n32 n33
    try clear N3
    obtain ⟨c0, c1, c2, c3⟩ : w3f.cell? ⟨w.heap.size, 0, none⟩ = some (.int .i64 z) ∧ w3f.cell? ⟨w.heap.size, 1, none⟩ = some (.int .i64 o) ∧ w3f.cell? ⟨w.heap.size + 1, 0, none⟩ = some (.int .i64 z') ∧ w3f.cell? ⟨w.heap.size + 1, 1, none⟩ = some (.int .i64 o') := by assumption
    have y3 : w.heap.size + 1 < w3f.drew.heap.size := World.block_lt_of_cell? _ _ c2
    have bd3 := Lib.hid B3.out.drew
    clear d0 d1 d2 d3 y2
    obtain ⟨gF, hgF⟩ : ∃ gF, IB w3f gF 51 [p, q] := ⟨_, F3.out⟩
    go_wp2_with (fail)
    go_region_held3 (fun w' => w'.cell? ⟨w.heap.size, 0, none⟩ = some (.int .i64 z) ∧ w'.cell? ⟨w.heap.size, 1, none⟩ = some (.int .i64 o) ∧ w'.cell? ⟨w.heap.size + 1, 0, none⟩ = some (.int .i64 z') ∧ w'.cell? ⟨w.heap.size + 1, 1, none⟩ = some (.int .i64 o'))
      (first
        | exact ⟨c0, c1, c2, c3⟩
        | assumption
        | exact four_next (by assumption) (by assumption)
        | exact four_next h4a ⟨c0, c1, c2, c3⟩
        | exact four_alloc _ (by assumption)
        | exact four_alloc _ ⟨c0, c1, c2, c3⟩
        | exact four_put y3 (by assumption)
        | exact four_put (Nat.lt_of_lt_of_le y3 h4a.size) (by assumption)
        | exact four_put (Nat.lt_of_lt_of_le y3 (Nat.le_trans h4a.size h4b.size)) (by assumption)
        | exact four_alloc _ (four_next h4c (four_next h4b (four_next h4a ⟨c0, c1, c2, c3⟩)))
        | go_keep)
      ((first
        | (go_at_call 47; (with_reducible refine (HT.out _).mono ?_); rintro e w4a ⟨rfl, h4a⟩)
        | (go_at_call 47; (with_reducible refine (HU.out _).mono ?_); rintro e w4b ⟨rfl, h4b⟩)
        | (go_at_call 50; (with_reducible refine (HI.out _).mono ?_); rintro e w4c ⟨rfl, h4c⟩; (first
            | (have N4 := IB.next (IB.next (IB.next (kbox w3f.drew 0 0 51) h4a) h4b) h4c; have n40 : w4c.cell? ⟨w3f.heap.size, 0, none⟩ = some (.int .i64 0) := N4.two.1; have n41 : w4c.cell? ⟨w3f.heap.size, 1, none⟩ = some (.int .i64 0) := N4.two.2; have n42 : w4c.frozen? ⟨w3f.heap.size, 0, none⟩ = false := N4.fz.1; have n43 : w4c.frozen? ⟨w3f.heap.size, 1, none⟩ = false := N4.fz.2)
            | (have N4 := IB.next (IB.next (kbox w4a 0 0 51) h4b) h4c; have n40 := N4.two.1; have n41 := N4.two.2; have n42 := N4.fz.1; have n43 := N4.fz.2)
            | (have N4 := IB.next (kbox w4b 0 0 51) h4c; have n40 := N4.two.1; have n41 := N4.two.2; have n42 := N4.fz.1; have n43 := N4.fz.2)
            | skip))))
    all_goals as_aux_lemma =>
      first
      | (have F4 : Hid (IB ((w4c.setCell ⟨w3f.heap.size, 0, none⟩ (.int .i64 p)).setCell ⟨w3f.heap.size, 1, none⟩ (.int .i64 q)) w3f.heap.size 51 [p, q]) := N4.put2 p q; have B4 : Hid (Below w.heap.size w ((w4c.setCell ⟨w3f.heap.size, 0, none⟩ (.int .i64 p)).setCell ⟨w3f.heap.size, 1, none⟩ (.int .i64 q))) := below_put2 (bnext (bnext (bnext (balloc bd3.out _) h4a) h4b) h4c) bd3.out.size _ _; have O4 : Hid (IB ((w4c.setCell ⟨w3f.heap.size, 0, none⟩ (.int .i64 p)).setCell ⟨w3f.heap.size, 1, none⟩ (.int .i64 q)) _ 51 [p, q]) := (((((show IB w3f.drew _ 51 [p, q] from F3.out).al _).next h4a).next h4b).next h4c).put_other (Nat.ne_of_lt F3.out.lt); generalize (World.setCell (World.setCell w4c _ _) _ _) = w4f at *)
      | (have F4 : Hid (IB ((w4c.setCell ⟨w4a.heap.size, 0, none⟩ (.int .i64 p)).setCell ⟨w4a.heap.size, 1, none⟩ (.int .i64 q)) w4a.heap.size 51 [p, q]) := N4.put2 p q; have B4 : Hid (Below w.heap.size w ((w4c.setCell ⟨w4a.heap.size, 0, none⟩ (.int .i64 p)).setCell ⟨w4a.heap.size, 1, none⟩ (.int .i64 q))) := below_put2 (bnext (bnext (balloc (bnext bd3.out h4a) _) h4b) h4c) (Nat.le_trans bd3.out.size h4a.size) _ _; have O4 : Hid (IB ((w4c.setCell ⟨w4a.heap.size, 0, none⟩ (.int .i64 p)).setCell ⟨w4a.heap.size, 1, none⟩ (.int .i64 q)) _ 51 [p, q]) := (((((show IB w3f.drew _ 51 [p, q] from F3.out).next h4a).al _).next h4b).next h4c).put_other (Nat.ne_of_lt (IB.next (show IB w3f.drew _ 51 [p, q] from F3.out) h4a).lt); generalize (World.setCell (World.setCell w4c _ _) _ _) = w4f at *)
      | (have F4 : Hid (IB ((w4c.setCell ⟨w4b.heap.size, 0, none⟩ (.int .i64 p)).setCell ⟨w4b.heap.size, 1, none⟩ (.int .i64 q)) w4b.heap.size 51 [p, q]) := N4.put2 p q; have B4 : Hid (Below w.heap.size w ((w4c.setCell ⟨w4b.heap.size, 0, none⟩ (.int .i64 p)).setCell ⟨w4b.heap.size, 1, none⟩ (.int .i64 q))) := below_put2 (bnext (balloc (bnext (bnext bd3.out h4a) h4b) _) h4c) (Nat.le_trans (Nat.le_trans bd3.out.size h4a.size) h4b.size) _ _; have O4 : Hid (IB ((w4c.setCell ⟨w4b.heap.size, 0, none⟩ (.int .i64 p)).setCell ⟨w4b.heap.size, 1, none⟩ (.int .i64 q)) _ 51 [p, q]) := (((((show IB w3f.drew _ 51 [p, q] from F3.out).next h4a).next h4b).al _).next h4c).put_other (Nat.ne_of_lt (IB.next (IB.next (show IB w3f.drew _ 51 [p, q] from F3.out) h4a) h4b).lt); generalize (World.setCell (World.setCell w4c _ _) _ _) = w4f at *)
      | (have F4 := Lib.hid (kbox w4c p q 51); have B4 := Lib.hid (balloc (bnext (bnext (bnext bd3.out h4a) h4b) h4c) (.cells #[.int .i64 p, .int .i64 q] 51)); have O4 := Lib.hid ((((((show IB w3f.drew _ 51 [p, q] from F3.out).next h4a).next h4b).next h4c)).al (.cells #[.int .i64 p, .int .i64 q] 51)); generalize (World.alloc w4c _) = w4f at *)
      clear h4a h4b h4c
      try clear n40 n41 n42 n43
      try clear N4
      clear c0 c1 c2 c3 y3
      obtain ⟨p0, p1⟩ := F4.out.two
      obtain ⟨q0, q1⟩ := O4.out.two
      have er : (p == p && q == q) = true := by simp
      go_wp2_with (fail)
      refine (eqKnownL_any p q p q _).mono ?_
      rintro e w9 ⟨rfl, hb⟩
      have b9 := Lib.hid (bnext B4.out hb)
      clear hb p0 p1 q0 q1
      rw [er]
      go_wp2
      go_ret
      exact ⟨rfl, b9.out⟩
end Go.Proofs.Ytcfmfbgnfpgpgaa
