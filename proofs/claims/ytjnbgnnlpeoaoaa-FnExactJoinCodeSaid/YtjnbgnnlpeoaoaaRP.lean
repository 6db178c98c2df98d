import Derived.Test.YtjnbgnnlpeoaoaaRO
import Derived.Test.YtjnbgnnlpeoaoaaLawC
import Derived.WalkKit
import Derived.WalkSpells
import Derived.WalkLawsBesides
import Derived.Lib.Hide
namespace Go.Proofs.Ytjnbgnnlpeoaoaa
open Go.RowKit
set_option linter.unusedVariables false
set_option maxRecDepth 100000

/-- A block of one instruction, written whole. -/
def XB (w : World) (g : Nat) (x : In) : Prop := CB 26 w g (In.enc x)
theorem XB.cells {w : World} {g : Nat} {x : In} (h : XB w g x) : w.cell? ⟨g, 0, none⟩ = some (.string x.op) ∧ w.cell? ⟨g, 1, none⟩ = some (.int .i64 x.d) ∧ w.cell? ⟨g, 2, none⟩ = some (.int .i64 x.a) ∧ w.cell? ⟨g, 3, none⟩ = some (.int .i64 x.b) ∧ w.cell? ⟨g, 4, none⟩ = some (.int .i64 x.m) := by
  refine ⟨?_, ?_, ?_, ?_, ?_⟩ <;> (rw [CB.cell h]; rfl)

theorem XB.other {w : World} {g : Nat} {x : In} (h : XB w g x) (p : Addr) (v : Value) (hp : p.block ≠ g) : XB (w.setCell p v) g x := by
  unfold XB CB at *
  rw [← h]
  simp [World.setCell, Array.getElem?_modify, hp]
theorem XB.five {w : World} {g : Nat} {x : In} (y : In) (h : XB w g x) (o : Obj) :
    XB ((((((w.setCell ⟨g, 0, none⟩ (.string y.op)).setCell ⟨g, 1, none⟩ (.int .i64 y.d)).setCell ⟨g, 2, none⟩ (.int .i64 y.a)).setCell ⟨g, 3, none⟩ (.int .i64 y.b)).setCell ⟨g, 4, none⟩ (.int .i64 y.m)).alloc o) g y := by
  have h5 : XB (((((w.setCell ⟨g, 0, none⟩ (.string y.op)).setCell ⟨g, 1, none⟩ (.int .i64 y.d)).setCell ⟨g, 2, none⟩ (.int .i64 y.a)).setCell ⟨g, 3, none⟩ (.int .i64 y.b)).setCell ⟨g, 4, none⟩ (.int .i64 y.m)) g y :=
    ((((CB.set h 0 _).set 1 _).set 2 _).set 3 _).set 4 _
  exact CB.below h5 ((Below.refl _ _).alloc (Nat.le_refl _) _) (CB.lt h5)
set_option maxHeartbeats 4000000 in
theorem renameInstr_any (x : In) (b o c : Nat) (ns : List Int) (w : World) (hx : goodIn x = true) (hbb : b < w.heap.size) (hc : Six w b o ns) :
    Calls Try.prog 108 #[.agg #[.string x.op, .int .i64 x.d, .int .i64 x.a, .int .i64 x.b, .int .i64 x.m], .slice (some ⟨b, o, none⟩) 6 c] w fun e w' =>
      e = .returned (.agg #[.string (ren ns x).op, .int .i64 (ren ns x).d, .int .i64 (ren ns x).a, .int .i64 (ren ns x).b, .int .i64 (ren ns x).m]) ∧ Below w.heap.size w w' := by
  obtain ⟨hd, ha, hb, hok, hm⟩ := good_parts hx
  have hz := good_zero hx
  obtain ⟨op, d, a, b', m⟩ := x
  obtain ⟨nd, rfl⟩ := Int.eq_ofNat_of_zero_le hd.1
  obtain ⟨na, rfl⟩ := Int.eq_ofNat_of_zero_le ha.1
  obtain ⟨nb, rfl⟩ := Int.eq_ofNat_of_zero_le hb.1
  simp only at hd ha hb hz
  have hR : ren ns ⟨op, nd, na, nb, m⟩ = ⟨op, ns.getD nd 0, if (fm op).a = true then ns.getD na 0 else 0, if (fm op).b = true then ns.getD nb 0 else 0, m⟩ := by simp [ren]
  generalize ren ns ⟨op, nd, na, nb, m⟩ = R at *
  obtain ⟨r0, r1, r2, r3, r4⟩ := R
  have hRR := Lib.hid hR
  simp only
  clear hR hok hm hx
  have hB := fun o1 o2 => ((Below.refl w.heap.size w).alloc (Nat.le_refl _) o1).alloc (by simp) o2
  have hSix := Lib.hid hc
  have hBB := Lib.hid hbb
  clear hc hbb
  go_enter Try.func108, Try.ntmps108
  go_wp2_with (fail)
  refine (formOf_any _ _).mono ?_
  rintro e w2 ⟨rfl, hb2⟩
  have hb0 := Lib.hid ((hB _ _).trans (hb2.mono (by simp; omega)))
  have hX : Hid (XB w2 w.heap.size ⟨op, nd, na, nb, m⟩) := by
    have h0 : XB (w.alloc (.cells #[.string op, .int .i64 nd, .int .i64 na, .int .i64 nb, .int .i64 m] 26)) w.heap.size ⟨op, nd, na, nb, m⟩ := heap_alloc_new w _
    exact (CB.below (CB.below h0 ((Below.refl _ _).alloc (Nat.le_refl _) _) (by simp)) hb2 (by simp; omega))
  have hX2 : Hid (XB w2 (w.heap.size + 1) ⟨ByteArray.empty, 0, 0, 0, 0⟩) := by
    have h0 := heap_alloc_new (w.alloc (.cells #[.string op, .int .i64 nd, .int .i64 na, .int .i64 nb, .int .i64 m] 26)) (.cells #[.string ByteArray.empty, .int .i64 0, .int .i64 0, .int .i64 0, .int .i64 0] 26)
    rw [show (w.alloc (.cells #[.string op, .int .i64 nd, .int .i64 na, .int .i64 nb, .int .i64 m] 26)).heap.size = w.heap.size + 1 by simp] at h0
    exact CB.below h0 hb2 (by simp)
  obtain ⟨xa, xb, xc, xd, xe⟩ := hX.out.cells
  obtain ⟨ya, yb, yc, yd, ye⟩ := hX2.out.cells
  simp only at xa xb xc xd xe ya yb yc yd ye
  have f1 := CB.frozen hX.out 1
  have f2 := CB.frozen hX.out 2
  have f3 := CB.frozen hX.out 3
  have p0 := CB.frozen hX2.out 0
  have p1 := CB.frozen hX2.out 1
  have p2 := CB.frozen hX2.out 2
  have p3 := CB.frozen hX2.out 3
  have p4 := CB.frozen hX2.out 4
  have hz1 : w.heap.size < w2.heap.size := CB.lt hX.out
  have hz2 : w.heap.size + 1 < w2.heap.size := CB.lt hX2.out
  have hs2 := hSix.out.below hb0.out hBB.out
  have hbl : b < w2.heap.size := by have := hBB.out; omega
  have hne : ¬ w.heap.size = b := by have := hBB.out; omega
  have hne2 : ¬ w.heap.size + 1 = b := by have := hBB.out; omega
  have q1 := hs2 nd (by omega)
  have q2 := hs2 na (by omega)
  have q3 := hs2 nb (by omega)
  have i1 : (nd : Int) < 6 := by omega
  have i2 : (na : Int) < 6 := by omega
  have i3 : (nb : Int) < 6 := by omega
  generalize ns.getD nd 0 = vd at *
  generalize ns.getD na 0 = va at *
  generalize ns.getD nb 0 = vb at *
  clear hs2 hb2 hB hX hd ha hb
  generalize fm op = f at *
  obtain ⟨ok, fa, fb, lo, hi, cc⟩ := f
  simp only [fmV] at hz hRR ⊢
  obtain ⟨hza, hzb⟩ := hz
  have hZa := Lib.hid hza
  have hZb := Lib.hid hzb
  clear hza hzb
  have hgg : Hid (w.heap.size ≠ w.heap.size + 1) := by simp [Hid]
  cases fa <;> cases fb
  · have hna : (na : Int) = 0 := hZa.out rfl
    simp only [hna] at xc i2 ⊢
    have hnb : (nb : Int) = 0 := hZb.out rfl
    simp only [hnb] at xd i3 ⊢
    go_wp2
    have e := hRR.out
    simp only [Bool.false_eq_true, if_false, if_true, In.mk.injEq] at e
    obtain ⟨e0, e1, e2, e3, e4⟩ := e
    refine bodyPost_ret (v := .agg #[.string op, .int .i64 vd, .int .i64 0, .int .i64 0, .int .i64 m]) ?_ rfl ⟨by rw [e0, e1, e2, e3, e4], ?_⟩
    · obtain ⟨z0, z1, z2, z3, z4⟩ := ((hX2.out.other ⟨w.heap.size, 1, none⟩ (.int .i64 vd) hgg.out).five ⟨op, vd, 0, 0, m⟩ (.cells #[.bool false, .bool false, .int .i64 lo, .int .i64 hi, .int .i64 cc] 68)).cells
      generalize (World.alloc _ _) = W at z0 z1 z2 z3 z4 ⊢
      simp only at z0 z1 z2 z3 z4
      simp [results, Try.results108, go_sem, z0, z1, z2, z3, z4]
    · refine Below.alloc ?_ (by simp [World.setCell]; omega) _
      iterate 6 (refine Below.setCell ?_ (by first | exact Nat.le_refl _ | exact Nat.le_succ _) _)
      exact hb0.out
  · have hna : (na : Int) = 0 := hZa.out rfl
    simp only [hna] at xc i2 ⊢
    go_wp2
    have e := hRR.out
    simp only [Bool.false_eq_true, if_false, if_true, In.mk.injEq] at e
    obtain ⟨e0, e1, e2, e3, e4⟩ := e
    refine bodyPost_ret (v := .agg #[.string op, .int .i64 vd, .int .i64 0, .int .i64 vb, .int .i64 m]) ?_ rfl ⟨by rw [e0, e1, e2, e3, e4], ?_⟩
    · obtain ⟨z0, z1, z2, z3, z4⟩ := (((hX2.out.other ⟨w.heap.size, 1, none⟩ (.int .i64 vd) hgg.out).other ⟨w.heap.size, 3, none⟩ (.int .i64 vb) hgg.out).five ⟨op, vd, 0, vb, m⟩ (.cells #[.bool false, .bool true, .int .i64 lo, .int .i64 hi, .int .i64 cc] 68)).cells
      generalize (World.alloc _ _) = W at z0 z1 z2 z3 z4 ⊢
      simp only at z0 z1 z2 z3 z4
      simp [results, Try.results108, go_sem, z0, z1, z2, z3, z4]
    · refine Below.alloc ?_ (by simp [World.setCell]; omega) _
      iterate 7 (refine Below.setCell ?_ (by first | exact Nat.le_refl _ | exact Nat.le_succ _) _)
      exact hb0.out
  · have hnb : (nb : Int) = 0 := hZb.out rfl
    simp only [hnb] at xd i3 ⊢
    go_wp2
    have e := hRR.out
    simp only [Bool.false_eq_true, if_false, if_true, In.mk.injEq] at e
    obtain ⟨e0, e1, e2, e3, e4⟩ := e
    refine bodyPost_ret (v := .agg #[.string op, .int .i64 vd, .int .i64 va, .int .i64 0, .int .i64 m]) ?_ rfl ⟨by rw [e0, e1, e2, e3, e4], ?_⟩
    · obtain ⟨z0, z1, z2, z3, z4⟩ := (((hX2.out.other ⟨w.heap.size, 1, none⟩ (.int .i64 vd) hgg.out).other ⟨w.heap.size, 2, none⟩ (.int .i64 va) hgg.out).five ⟨op, vd, va, 0, m⟩ (.cells #[.bool true, .bool false, .int .i64 lo, .int .i64 hi, .int .i64 cc] 68)).cells
      generalize (World.alloc _ _) = W at z0 z1 z2 z3 z4 ⊢
      simp only at z0 z1 z2 z3 z4
      simp [results, Try.results108, go_sem, z0, z1, z2, z3, z4]
    · refine Below.alloc ?_ (by simp [World.setCell]; omega) _
      iterate 7 (refine Below.setCell ?_ (by first | exact Nat.le_refl _ | exact Nat.le_succ _) _)
      exact hb0.out
  · go_wp2
    have e := hRR.out
    simp only [Bool.false_eq_true, if_false, if_true, In.mk.injEq] at e
    obtain ⟨e0, e1, e2, e3, e4⟩ := e
    refine bodyPost_ret (v := .agg #[.string op, .int .i64 vd, .int .i64 va, .int .i64 vb, .int .i64 m]) ?_ rfl ⟨by rw [e0, e1, e2, e3, e4], ?_⟩
    · obtain ⟨z0, z1, z2, z3, z4⟩ := ((((hX2.out.other ⟨w.heap.size, 1, none⟩ (.int .i64 vd) hgg.out).other ⟨w.heap.size, 2, none⟩ (.int .i64 va) hgg.out).other ⟨w.heap.size, 3, none⟩ (.int .i64 vb) hgg.out).five ⟨op, vd, va, vb, m⟩ (.cells #[.bool true, .bool true, .int .i64 lo, .int .i64 hi, .int .i64 cc] 68)).cells
      generalize (World.alloc _ _) = W at z0 z1 z2 z3 z4 ⊢
      simp only at z0 z1 z2 z3 z4
      simp [results, Try.results108, go_sem, z0, z1, z2, z3, z4]
    · refine Below.alloc ?_ (by simp [World.setCell]; omega) _
      iterate 8 (refine Below.setCell ?_ (by first | exact Nat.le_refl _ | exact Nat.le_succ _) _)
      exact hb0.out
end Go.Proofs.Ytjnbgnnlpeoaoaa
