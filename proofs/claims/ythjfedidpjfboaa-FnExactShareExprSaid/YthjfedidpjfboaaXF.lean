import Derived.Test.YthjfedidpjfboaaXE
import Derived.Test.YthjfedidpjfboaaWF
import Derived.WalkKit
import Derived.WalkSpells
import Derived.WalkLawsBesides
import Derived.Lib.Hide
/- A node with its operands placed by a walk that builds. -/
namespace Go.Proofs.Ythjfedidpjfboaa
open Go.RowKit
set_option linter.unusedVariables false
set_option maxRecDepth 100000

/-- The node whose operands a walk places, one after the other. -/
def woN (T : Nat → List Nd × Bool → (List Nd × Bool) × Int) (n : Nd) (s : List Nd × Bool) : (List Nd × Bool) × Nd :=
  if ar n.op = 1 then ((T n.a.toNat s).1, ⟨n.op, (T n.a.toNat s).2, 0, n.v⟩)
  else if ar n.op = 2 then ((T n.b.toNat (T n.a.toNat s).1).1, ⟨n.op, (T n.a.toNat s).2, (T n.b.toNat (T n.a.toNat s).1).2, n.v⟩)
  else (s, ⟨n.op, 0, 0, n.v⟩)

theorem xn_fr {w w' : World} {g q : Nat} {r : Option Nat} {n : Nd} (h : XN w g n) (hf : Fr q r w w') (h1 : g ≠ q) (h2 : r ≠ some g) : XN w' g n := (hf.block g h.lt h1 h2).trans h

set_option maxHeartbeats 8000000 in
theorem withOperands_gen (fn : Nat) (T : Nat → List Nd × Bool → (List Nd × Bool) × Int) (t : TypeId) (rest : List Value) (q L C k : Nat) (n : Nd) (s : List Nd × Bool) (v : Value) (w0 w : World) (hn : isNode n k = true) (hC : C ≤ w0.heap.size) (hCq : C ≤ q) (hCL : C ≤ L) (hb0 : Below C w0 w) (hs : GS t rest q L s.1 s.2 v w) (hent : ∀ (args : Array Value) (W : World), Sem.run Try.prog (callFunc fn args) W = .ok (.enter fn args) W)
    (hcall : ∀ (a : Nat) (s : List Nd × Bool) (v : Value) (W : World), a < k → Below C w0 W → GS t rest q L s.1 s.2 v W → Calls Try.prog fn #[.pointer (some ⟨q, 0, none⟩), .int .i64 a] W fun e w' => e = .returned (.int .i64 (T a s).2) ∧ GP t rest q L v W (T a s).1 w') :
    Calls Try.prog 182 #[.agg #[.string n.op, .int .i64 n.a, .int .i64 n.b, .int .i64 n.v], .func (.func fn) #[.pointer (some ⟨q, 0, none⟩)] #[]] w fun e w' => e = .returned (.agg #[.string (woN T n s).2.op, .int .i64 (woN T n s).2.a, .int .i64 (woN T n s).2.b, .int .i64 (woN T n s).2.v]) ∧ GP t rest q L v w (woN T n s).1 w' := by
  obtain ⟨op, a, b, x⟩ := n
  dsimp only
  have hOc := Lib.hid fun W => operandCount_any op W
  obtain ⟨W1, hW1⟩ : ∃ W1, W1 = w.alloc (.cells #[.string op, .int .i64 a, .int .i64 b, .int .i64 x] 79) := ⟨_, rfl⟩
  have b1 : Below w.heap.size w W1 := by rw [hW1]; exact (Below.refl _ _).alloc (Nat.le_refl _) _
  have x1 : XN W1 w.heap.size ⟨op, a, b, x⟩ := by rw [hW1]; exact xn_new _ ⟨op, a, b, x⟩
  have z1 : W1.heap.size = w.heap.size + 1 := by rw [hW1]; simp
  obtain ⟨W2, hW2⟩ : ∃ W2, W2 = W1.alloc (.cells #[.string ⟨#[]⟩, .int .i64 0, .int .i64 0, .int .i64 0] 79) := ⟨_, rfl⟩
  have c2 : Below W1.heap.size W1 W2 := by rw [hW2]; exact (Below.refl _ _).alloc (Nat.le_refl _) _
  have x2 := Lib.hid (x1.next c2)
  have r2 : Hid (XN W2 (w.heap.size + 1) zeroNd) := by unfold Hid; rw [hW2, ← z1]; exact xn_new _ zeroNd
  have b2 := Lib.hid (b1.trans (c2.mono b1.size))
  have z2 : Hid (W2.heap.size = w.heap.size + 2) := by unfold Hid; rw [hW2]; simp [z1]
  have e2 : Hid (W2 = (w.alloc (.cells #[.string op, .int .i64 a, .int .i64 b, .int .i64 x] 79)).alloc (.cells #[.string ⟨#[]⟩, .int .i64 0, .int .i64 0, .int .i64 0] 79)) := by unfold Hid; rw [hW2, hW1]
  have hqs := hs.lt
  have G2 := Lib.hid (hs.next b2.out)
  have hCw : C ≤ w.heap.size := by have := hb0.size; omega
  have hB0 := Lib.hid hb0
  have B2 := Lib.hid (hb0.trans (b2.out.mono hCw))
  have own0 := Lib.hid fun j (hj : v.ownBlock = some j) => hs.own j hj
  have hcl := Lib.hid hcall
  clear hW1 hW2 b1 x1 z1 c2 hs hcall hb0
  obtain ⟨d0, d1, d2, d3⟩ := x2.out.cells
  rcases ar_cases_nd hn with ⟨h1, h2, h3, h4, h5⟩ | ⟨h1, h2, h3, h4, h5, h6⟩ | ⟨h1, h2, h3, h4, h5, h6, h7⟩
  · dsimp only at h1 h2 h3 h4 h5
    have hmv := Lib.hid (show woN T ⟨op, a, b, x⟩ s = (s, ⟨op, 0, 0, x⟩) by unfold woN; simp [h1])
    rw [hmv.out]
    subst h4; subst h5
    rw [h1] at hOc
    clear h1 h2 h3 hmv hcl hn
    have f0 := r2.out.fz 0
    have f1 := r2.out.fz 1
    have f2 := r2.out.fz 2
    have f3 := r2.out.fz 3
    obtain ⟨g0, g1, g2, g3⟩ := r2.out.cells
    have R := Lib.hid (r2.out.put4 ⟨op, 0, 0, x⟩)
    have RB := Lib.hid (below_put4 b2.out (g := w.heap.size + 1) (by omega) ⟨op, 0, 0, x⟩)
    have RG : Hid (GP t rest q L v w s (put4 W2 (w.heap.size + 1) ⟨op, 0, 0, x⟩)) := by
      have hne : w.heap.size + 1 ≠ q := by omega
      have hno : v.ownBlock ≠ some (w.heap.size + 1) := fun e => by have := own0.out _ e; omega
      refine ⟨v, ?_, ?_, fun j hj => .inl hj⟩
      · exact (((G2.out.other (p := ⟨_, 0, none⟩) hne hno _).other (p := ⟨_, 1, none⟩) hne hno _).other (p := ⟨_, 2, none⟩) hne hno _).other (p := ⟨_, 3, none⟩) hne hno _
      · exact Fr.ofBelow RB.out
    go_enter Try.func182, Try.ntmps182
    go_wp2_with (fail)
    rw [← e2.out]
    refine (hOc.out _).mono ?_
    rintro e w4 ⟨rfl, rfl⟩
    go_wp2
    exact node_ret rfl rfl R.out ⟨rfl, RG.out⟩
  · dsimp only at h1 h2 h3 h4 h5 h6
    obtain ⟨pa, rfl⟩ := Int.eq_ofNat_of_zero_le h4
    subst h6
    have hmv := Lib.hid (show woN T ⟨op, (pa : Int), 0, x⟩ s = ((T pa s).1, ⟨op, (T pa s).2, 0, x⟩) by unfold woN; simp [h1])
    rw [hmv.out]
    rw [h1] at hOc
    have hpam : pa < k := by omega
    have HA := Lib.hid (hcl.out pa s v W2 hpam B2.out G2.out)
    clear h1 h2 h3 hmv hcl hn
    generalize T pa s = ra at *
    obtain ⟨sa, va⟩ := ra
    dsimp only at HA ⊢
    go_enter Try.func182, Try.ntmps182
    go_wp2_with (fail)
    rw [← e2.out]
    refine (hOc.out _).mono ?_
    rintro e w4 ⟨rfl, rfl⟩
    go_wp2_with (fail)
    refine HA.out.mono ?_
    rintro e w5 ⟨rfl, v5, g5, f5, o5⟩
    have hne : w.heap.size ≠ q := by omega
    have hno : v.ownBlock ≠ some w.heap.size := fun e => by have := own0.out _ e; omega
    have hne1 : w.heap.size + 1 ≠ q := by omega
    have hno1 : v.ownBlock ≠ some (w.heap.size + 1) := fun e => by have := own0.out _ e; omega
    have hso : v5.ownBlock ≠ some w.heap.size := fun e => by
      rcases o5 _ e with e' | e'
      · exact hno e'
      · have := z2.out; omega
    have hso1 : v5.ownBlock ≠ some (w.heap.size + 1) := fun e => by
      rcases o5 _ e with e' | e'
      · exact hno1 e'
      · have := z2.out; omega
    have x5 := xn_fr x2.out f5 hne hno
    have r5 := xn_fr r2.out f5 hne1 hno1
    have f1' := x5.fz 1
    have x6 := x5.setA va
    have r6 := r5.other (q := w.heap.size) 1 (.int .i64 va) (by omega)
    have g6 := g5.other (p := ⟨w.heap.size, 1, none⟩) hne hso (.int .i64 va)
    have ff6 := ((Fr.ofBelow (q := q) (r := v.ownBlock) b2.out).trans f5 (fun j hj => .inl hj)).far (p := ⟨w.heap.size, 1, none⟩) (Nat.le_refl _) (.int .i64 va)
    obtain ⟨k0, k1, k2, k3⟩ := x5.cells
    obtain ⟨m0, m1, m2, m3⟩ := x6.cells
    have f0 := r6.fz 0
    have f1 := r6.fz 1
    have f2 := r6.fz 2
    have f3 := r6.fz 3
    obtain ⟨y0, y1, y2, y3⟩ := r6.cells
    have R := Lib.hid (r6.put4 ⟨op, va, 0, x⟩)
    have RG : Hid (GP t rest q L v w sa (put4 (w5.setCell ⟨w.heap.size, 1, none⟩ (.int .i64 va)) (w.heap.size + 1) ⟨op, va, 0, x⟩)) := by
      refine ⟨v5, ?_, ?_, fun j hj => ?_⟩
      · exact (((g6.other (p := ⟨_, 0, none⟩) hne1 hso1 _).other (p := ⟨_, 1, none⟩) hne1 hso1 _).other (p := ⟨_, 2, none⟩) hne1 hso1 _).other (p := ⟨_, 3, none⟩) hne1 hso1 _
      · exact (((ff6.far (p := ⟨_, 0, none⟩) (by simp) _).far (p := ⟨_, 1, none⟩) (by simp) _).far (p := ⟨_, 2, none⟩) (by simp) _).far (p := ⟨_, 3, none⟩) (by simp) _
      · rcases o5 j hj with e | e
        · exact .inl e
        · exact .inr (by have := z2.out; omega)
    clear x5 r5 x6 r6 g5 f5 o5 g6 ff6 hso hso1 d0 d1 d2 d3
    go_wp2
    exact node_ret rfl rfl R.out ⟨rfl, RG.out⟩
  · dsimp only at h1 h2 h3 h4 h5 h6 h7
    obtain ⟨pa, rfl⟩ := Int.eq_ofNat_of_zero_le h4
    obtain ⟨pb, rfl⟩ := Int.eq_ofNat_of_zero_le h6
    have hmv := Lib.hid (show woN T ⟨op, (pa : Int), (pb : Int), x⟩ s = ((T pb (T pa s).1).1, ⟨op, (T pa s).2, (T pb (T pa s).1).2, x⟩) by unfold woN; simp [h1])
    rw [hmv.out]
    rw [h1] at hOc
    have hpam : pa < k := by omega
    have hpbm : pb < k := by omega
    have HA := Lib.hid (hcl.out pa s v W2 hpam B2.out G2.out)
    have HB := Lib.hid (fun s v W => hcl.out pb s v W hpbm)
    clear h1 h2 h3 hmv hcl hn
    generalize T pa s = ra at *
    obtain ⟨sa, va⟩ := ra
    dsimp only at HA ⊢
    have HB1 := Lib.hid (fun v W => HB.out sa v W)
    clear HB
    generalize T pb sa = rb at *
    obtain ⟨sb, vb⟩ := rb
    dsimp only at HB1 ⊢
    go_enter Try.func182, Try.ntmps182
    go_wp2_with (fail)
    rw [← e2.out]
    refine (hOc.out _).mono ?_
    rintro e w4 ⟨rfl, rfl⟩
    go_wp2_with (fail)
    refine HA.out.mono ?_
    rintro e w5 ⟨rfl, v5, g5, f5, o5⟩
    have hne : w.heap.size ≠ q := by omega
    have hno : v.ownBlock ≠ some w.heap.size := fun e => by have := own0.out _ e; omega
    have hne1 : w.heap.size + 1 ≠ q := by omega
    have hno1 : v.ownBlock ≠ some (w.heap.size + 1) := fun e => by have := own0.out _ e; omega
    have hso : v5.ownBlock ≠ some w.heap.size := fun e => by
      rcases o5 _ e with e' | e'
      · exact hno e'
      · have := z2.out; omega
    have hso1 : v5.ownBlock ≠ some (w.heap.size + 1) := fun e => by
      rcases o5 _ e with e' | e'
      · exact hno1 e'
      · have := z2.out; omega
    have x5 := xn_fr x2.out f5 hne hno
    have r5 := xn_fr r2.out f5 hne1 hno1
    have f1' := x5.fz 1
    have x6 := Lib.hid (x5.setA va)
    have r6 := Lib.hid (r5.other (q := w.heap.size) 1 (.int .i64 va) (by omega))
    have g6 := Lib.hid (g5.other (p := ⟨w.heap.size, 1, none⟩) hne hso (.int .i64 va))
    have ff6 := Lib.hid (((Fr.ofBelow (q := q) (r := v.ownBlock) b2.out).trans f5 (fun j hj => .inl hj)).far (p := ⟨w.heap.size, 1, none⟩) (Nat.le_refl _) (.int .i64 va))
    have bb6 : Hid (Below C w0 (w5.setCell ⟨w.heap.size, 1, none⟩ (.int .i64 va))) := by
      unfold Hid
      exact hB0.out.trans (ff6.out.below hCw hCq (fun j hj => Nat.le_trans hCL (own0.out j hj).1))
    have o6 : Hid (∀ j, v5.ownBlock = some j → v.ownBlock = some j ∨ w.heap.size ≤ j) := fun j hj => by
      rcases o5 j hj with e | e
      · exact .inl e
      · exact .inr (by have := z2.out; omega)
    have s6 : Hid (w.heap.size + 2 ≤ (w5.setCell ⟨w.heap.size, 1, none⟩ (.int .i64 va)).heap.size) := by
      have h1 := f5.size; have h2 := z2.out; unfold Hid; simp [World.setCell]; omega
    obtain ⟨k0, k1, k2, k3⟩ := x5.cells
    clear x5 r5 g5 f5 o5 d0 d1 d2 d3
    obtain ⟨W6, hW6⟩ : ∃ W6, W6 = w5.setCell ⟨w.heap.size, 1, none⟩ (.int .i64 va) := ⟨_, rfl⟩
    rw [← hW6] at x6 r6 g6 ff6 bb6 s6
    have HW6 := Lib.hid hW6
    obtain ⟨m0, m1, m2, m3⟩ := x6.out.cells
    rw [hW6] at m2
    clear hW6 m0 m1 m3
    go_wp2_with (fail)
    rw [← HW6.out]
    refine (HB1.out v5 W6 bb6.out g6.out).mono ?_
    rintro e w7 ⟨rfl, v7, g7, f7, o7⟩
    clear k0 k1 k2 k3 m2 f1'
    have hto : v7.ownBlock ≠ some w.heap.size := fun e => by
      rcases o7 _ e with e' | e'
      · exact hso e'
      · have := s6.out; omega
    have hto1 : v7.ownBlock ≠ some (w.heap.size + 1) := fun e => by
      rcases o7 _ e with e' | e'
      · exact hso1 e'
      · have := s6.out; omega
    have x7 := xn_fr x6.out f7 hne hso
    have r7 := xn_fr r6.out f7 hne1 hso1
    have f2' := x7.fz 2
    have x8 := x7.setB vb
    have r8 := r7.other (q := w.heap.size) 2 (.int .i64 vb) (by omega)
    have g8 := g7.other (p := ⟨w.heap.size, 2, none⟩) hne hto (.int .i64 vb)
    have ff8 := (ff6.out.trans f7 (fun j hj => o6.out j hj)).far (p := ⟨w.heap.size, 2, none⟩) (Nat.le_refl _) (.int .i64 vb)
    obtain ⟨k0, k1, k2, k3⟩ := x7.cells
    obtain ⟨m0, m1, m2, m3⟩ := x8.cells
    have f0 := r8.fz 0
    have f1 := r8.fz 1
    have f2 := r8.fz 2
    have f3 := r8.fz 3
    obtain ⟨y0, y1, y2, y3⟩ := r8.cells
    have R := Lib.hid (r8.put4 ⟨op, va, vb, x⟩)
    have RG : Hid (GP t rest q L v w sb (put4 (w7.setCell ⟨w.heap.size, 2, none⟩ (.int .i64 vb)) (w.heap.size + 1) ⟨op, va, vb, x⟩)) := by
      refine ⟨v7, ?_, ?_, fun j hj => ?_⟩
      · exact (((g8.other (p := ⟨_, 0, none⟩) hne1 hto1 _).other (p := ⟨_, 1, none⟩) hne1 hto1 _).other (p := ⟨_, 2, none⟩) hne1 hto1 _).other (p := ⟨_, 3, none⟩) hne1 hto1 _
      · exact (((ff8.far (p := ⟨_, 0, none⟩) (by simp) _).far (p := ⟨_, 1, none⟩) (by simp) _).far (p := ⟨_, 2, none⟩) (by simp) _).far (p := ⟨_, 3, none⟩) (by simp) _
      · rcases o7 j hj with e | e
        · exact o6.out j e
        · exact .inr (by have := s6.out; omega)
    clear x7 r7 x8 r8 g7 f7 o7 g8 ff8 hto hto1
    go_wp2
    exact node_ret rfl rfl R.out ⟨rfl, RG.out⟩
end Go.Proofs.Ythjfedidpjfboaa
