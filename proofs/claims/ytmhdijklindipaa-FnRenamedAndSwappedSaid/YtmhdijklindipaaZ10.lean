/- Texts of this proof, one behind the other: RP, DR2, DR3, CZ3, DA, SA. -/
import Derived.Test.YtmhdijklindipaaZ11
import Derived.Test.YtmhdijklindipaaLawC
import Derived.WalkKit
import Derived.WalkSpells
import Derived.WalkLawsBesides
import Derived.Lib.Hide
import Derived.Test.YtmhdijklindipaaDR1
import Derived.Test.YtmhdijklindipaaZ14
import Derived.Test.YtmhdijklindipaaCC
import Derived.Deep.RegionHeld3
import Derived.Deep.RegionLaw
namespace Go.Proofs.Ytmhdijklindipaa
open Go.RowKit
set_option linter.unusedVariables false
set_option maxRecDepth 100000

/-- A block of one instruction, written whole. -/
def XB (w : World) (g : Nat) (x : In) : Prop := CB 56 w g (In.enc x)
theorem XB.cells {w : World} {g : Nat} {x : In} (h : XB w g x) : w.cell? ⟨g, 0, none⟩ = some (.string x.op) ∧ w.cell? ⟨g, 1, none⟩ = some (.int .i64 x.d) ∧ w.cell? ⟨g, 2, none⟩ = some (.int .i64 x.a) ∧ w.cell? ⟨g, 3, none⟩ = some (.int .i64 x.b) ∧ w.cell? ⟨g, 4, none⟩ = some (.int .i64 x.m) := by
  refine ⟨?_, ?_, ?_, ?_, ?_⟩ <;> (rw [CB.cell h]; rfl)

theorem XB.other {w : World} {g : Nat} {x : In} (h : XB w g x) (p : Addr) (v : Value) (hp : p.block ≠ g) : XB (w.setCell p v) g x := by
  unfold XB CB at *
  rw [← h]
  simp [World.setCell, Array.getElem?_modify, hp]
theorem XB.five {w : World} {g : Nat} {x : In} (y : In) (h : XB w g x) (o : Obj) :
    XB ((((((w.setCell ⟨g, 0, none⟩ (.string y.op)).setCell ⟨g, 1, none⟩ (.int .i64 y.d)).setCell ⟨g, 2, none⟩ (.int .i64 y.a)).setCell ⟨g, 3, none⟩ (.int .i64 y.b)).setCell ⟨g, 4, none⟩ (.int .i64 y.m)).alloc o) g y := by
  have h5 : XB (((((w.setCell ⟨g, 0, none⟩ (.string y.op)).setCell ⟨g, 1, none⟩ (.int .i64 y.d)).setCell ⟨g, 2, none⟩ (.int .i64 y.a)).setCell ⟨g, 3, none⟩ (.int .i64 y.b)).setCell ⟨g, 4, none⟩ (.int .i64 y.m)) g y :=
    ((((CB.set h 0 _).set 1 _).set 2 _).set 3 _).set 4 _
  exact CB.below h5 ((Below.refl _ _).alloc (Nat.le_refl _) _) (CB.lt h5)
set_option maxHeartbeats 4000000 in
theorem renameInstr_any (x : In) (b o c : Nat) (ns : List Int) (w : World) (hx : goodIn x = true) (hbb : b < w.heap.size) (hc : Six w b o ns) :
    Calls Try.prog 164 #[.agg #[.string x.op, .int .i64 x.d, .int .i64 x.a, .int .i64 x.b, .int .i64 x.m], .slice (some ⟨b, o, none⟩) 6 c] w fun e w' =>
      e = .returned (.agg #[.string (ren ns x).op, .int .i64 (ren ns x).d, .int .i64 (ren ns x).a, .int .i64 (ren ns x).b, .int .i64 (ren ns x).m]) ∧ Below w.heap.size w w' := by
  obtain ⟨hd, ha, hb, hok, hm⟩ := good_parts hx
  have hz := good_zero hx
  obtain ⟨op, d, a, b', m⟩ := x
  obtain ⟨nd, rfl⟩ := Int.eq_ofNat_of_zero_le hd.1
  obtain ⟨na, rfl⟩ := Int.eq_ofNat_of_zero_le ha.1
  obtain ⟨nb, rfl⟩ := Int.eq_ofNat_of_zero_le hb.1
  simp only at hd ha hb hz
  have hR : ren ns ⟨op, nd, na, nb, m⟩ = ⟨op, ns.getD nd 0, if (fm op).a = true then ns.getD na 0 else 0, if (fm op).b = true then ns.getD nb 0 else 0, m⟩ := by simp [ren]
  generalize ren ns ⟨op, nd, na, nb, m⟩ = R at *
  obtain ⟨r0, r1, r2, r3, r4⟩ := R
  have hRR := Lib.hid hR
  simp only
  clear hR hok hm hx
  have hB := fun o1 o2 => ((Below.refl w.heap.size w).alloc (Nat.le_refl _) o1).alloc (by simp) o2
  have hSix := Lib.hid hc
  have hBB := Lib.hid hbb
  clear hc hbb
  go_enter Try.func164, Try.ntmps164
  go_wp2_with (fail)
  refine (formOf_any _ _).mono ?_
  rintro e w2 ⟨rfl, hb2⟩
  have hb0 := Lib.hid ((hB _ _).trans (hb2.mono (by simp; omega)))
  have hX : Hid (XB w2 w.heap.size ⟨op, nd, na, nb, m⟩) := by
    have h0 : XB (w.alloc (.cells #[.string op, .int .i64 nd, .int .i64 na, .int .i64 nb, .int .i64 m] 56)) w.heap.size ⟨op, nd, na, nb, m⟩ := heap_alloc_new w _
    exact (CB.below (CB.below h0 ((Below.refl _ _).alloc (Nat.le_refl _) _) (by simp)) hb2 (by simp; omega))
  have hX2 : Hid (XB w2 (w.heap.size + 1) ⟨ByteArray.empty, 0, 0, 0, 0⟩) := by
    have h0 := heap_alloc_new (w.alloc (.cells #[.string op, .int .i64 nd, .int .i64 na, .int .i64 nb, .int .i64 m] 56)) (.cells #[.string ByteArray.empty, .int .i64 0, .int .i64 0, .int .i64 0, .int .i64 0] 56)
    rw [show (w.alloc (.cells #[.string op, .int .i64 nd, .int .i64 na, .int .i64 nb, .int .i64 m] 56)).heap.size = w.heap.size + 1 by simp] at h0
    exact CB.below h0 hb2 (by simp)
  obtain ⟨xa, xb, xc, xd, xe⟩ := hX.out.cells
  obtain ⟨ya, yb, yc, yd, ye⟩ := hX2.out.cells
  simp only at xa xb xc xd xe ya yb yc yd ye
  have f1 := CB.frozen hX.out 1
  have f2 := CB.frozen hX.out 2
  have f3 := CB.frozen hX.out 3
  have p0 := CB.frozen hX2.out 0
  have p1 := CB.frozen hX2.out 1
  have p2 := CB.frozen hX2.out 2
  have p3 := CB.frozen hX2.out 3
  have p4 := CB.frozen hX2.out 4
  have hz1 : w.heap.size < w2.heap.size := CB.lt hX.out
  have hz2 : w.heap.size + 1 < w2.heap.size := CB.lt hX2.out
  have hs2 := hSix.out.below hb0.out hBB.out
  have hbl : b < w2.heap.size := by have := hBB.out; omega
  have hne : ¬ w.heap.size = b := by have := hBB.out; omega
  have hne2 : ¬ w.heap.size + 1 = b := by have := hBB.out; omega
  have q1 := hs2 nd (by omega)
  have q2 := hs2 na (by omega)
  have q3 := hs2 nb (by omega)
  have i1 : (nd : Int) < 6 := by omega
  have i2 : (na : Int) < 6 := by omega
  have i3 : (nb : Int) < 6 := by omega
  generalize ns.getD nd 0 = vd at *
  generalize ns.getD na 0 = va at *
  generalize ns.getD nb 0 = vb at *
  clear hs2 hb2 hB hX hd ha hb
  generalize fm op = f at *
  obtain ⟨ok, fa, fb, lo, hi, cc⟩ := f
  simp only [fmV] at hz hRR ⊢
  obtain ⟨hza, hzb⟩ := hz
  have hZa := Lib.hid hza
  have hZb := Lib.hid hzb
  clear hza hzb
  have hgg : Hid (w.heap.size ≠ w.heap.size + 1) := by simp [Hid]
  cases fa <;> cases fb
  · have hna : (na : Int) = 0 := hZa.out rfl
    simp only [hna] at xc i2 ⊢
    have hnb : (nb : Int) = 0 := hZb.out rfl
    simp only [hnb] at xd i3 ⊢
    go_wp2
    have e := hRR.out
    simp only [Bool.false_eq_true, if_false, if_true, In.mk.injEq] at e
    obtain ⟨e0, e1, e2, e3, e4⟩ := e
    refine bodyPost_ret (v := .agg #[.string op, .int .i64 vd, .int .i64 0, .int .i64 0, .int .i64 m]) ?_ rfl ⟨by rw [e0, e1, e2, e3, e4], ?_⟩
    · obtain ⟨z0, z1, z2, z3, z4⟩ := ((hX2.out.other ⟨w.heap.size, 1, none⟩ (.int .i64 vd) hgg.out).five ⟨op, vd, 0, 0, m⟩ (.cells #[.bool false, .bool false, .int .i64 lo, .int .i64 hi, .int .i64 cc] 131)).cells
      generalize (World.alloc _ _) = W at z0 z1 z2 z3 z4 ⊢
      simp only at z0 z1 z2 z3 z4
      simp [results, Try.results164, go_sem, z0, z1, z2, z3, z4]
    · refine Below.alloc ?_ (by simp [World.setCell]; omega) _
      iterate 6 (refine Below.setCell ?_ (by first | exact Nat.le_refl _ | exact Nat.le_succ _) _)
      exact hb0.out
  · have hna : (na : Int) = 0 := hZa.out rfl
    simp only [hna] at xc i2 ⊢
    go_wp2
    have e := hRR.out
    simp only [Bool.false_eq_true, if_false, if_true, In.mk.injEq] at e
    obtain ⟨e0, e1, e2, e3, e4⟩ := e
    refine bodyPost_ret (v := .agg #[.string op, .int .i64 vd, .int .i64 0, .int .i64 vb, .int .i64 m]) ?_ rfl ⟨by rw [e0, e1, e2, e3, e4], ?_⟩
    · obtain ⟨z0, z1, z2, z3, z4⟩ := (((hX2.out.other ⟨w.heap.size, 1, none⟩ (.int .i64 vd) hgg.out).other ⟨w.heap.size, 3, none⟩ (.int .i64 vb) hgg.out).five ⟨op, vd, 0, vb, m⟩ (.cells #[.bool false, .bool true, .int .i64 lo, .int .i64 hi, .int .i64 cc] 131)).cells
      generalize (World.alloc _ _) = W at z0 z1 z2 z3 z4 ⊢
      simp only at z0 z1 z2 z3 z4
      simp [results, Try.results164, go_sem, z0, z1, z2, z3, z4]
    · refine Below.alloc ?_ (by simp [World.setCell]; omega) _
      iterate 7 (refine Below.setCell ?_ (by first | exact Nat.le_refl _ | exact Nat.le_succ _) _)
      exact hb0.out
  · have hnb : (nb : Int) = 0 := hZb.out rfl
    simp only [hnb] at xd i3 ⊢
    go_wp2
    have e := hRR.out
    simp only [Bool.false_eq_true, if_false, if_true, In.mk.injEq] at e
    obtain ⟨e0, e1, e2, e3, e4⟩ := e
    refine bodyPost_ret (v := .agg #[.string op, .int .i64 vd, .int .i64 va, .int .i64 0, .int .i64 m]) ?_ rfl ⟨by rw [e0, e1, e2, e3, e4], ?_⟩
    · obtain ⟨z0, z1, z2, z3, z4⟩ := (((hX2.out.other ⟨w.heap.size, 1, none⟩ (.int .i64 vd) hgg.out).other ⟨w.heap.size, 2, none⟩ (.int .i64 va) hgg.out).five ⟨op, vd, va, 0, m⟩ (.cells #[.bool true, .bool false, .int .i64 lo, .int .i64 hi, .int .i64 cc] 131)).cells
      generalize (World.alloc _ _) = W at z0 z1 z2 z3 z4 ⊢
      simp only at z0 z1 z2 z3 z4
      simp [results, Try.results164, go_sem, z0, z1, z2, z3, z4]
    · refine Below.alloc ?_ (by simp [World.setCell]; omega) _
      iterate 7 (refine Below.setCell ?_ (by first | exact Nat.le_refl _ | exact Nat.le_succ _) _)
      exact hb0.out
  · go_wp2
    have e := hRR.out
    simp only [Bool.false_eq_true, if_false, if_true, In.mk.injEq] at e
    obtain ⟨e0, e1, e2, e3, e4⟩ := e
    refine bodyPost_ret (v := .agg #[.string op, .int .i64 vd, .int .i64 va, .int .i64 vb, .int .i64 m]) ?_ rfl ⟨by rw [e0, e1, e2, e3, e4], ?_⟩
    · obtain ⟨z0, z1, z2, z3, z4⟩ := ((((hX2.out.other ⟨w.heap.size, 1, none⟩ (.int .i64 vd) hgg.out).other ⟨w.heap.size, 2, none⟩ (.int .i64 va) hgg.out).other ⟨w.heap.size, 3, none⟩ (.int .i64 vb) hgg.out).five ⟨op, vd, va, vb, m⟩ (.cells #[.bool true, .bool true, .int .i64 lo, .int .i64 hi, .int .i64 cc] 131)).cells
      generalize (World.alloc _ _) = W at z0 z1 z2 z3 z4 ⊢
      simp only at z0 z1 z2 z3 z4
      simp [results, Try.results164, go_sem, z0, z1, z2, z3, z4]
    · refine Below.alloc ?_ (by simp [World.setCell]; omega) _
      iterate 8 (refine Below.setCell ?_ (by first | exact Nat.le_refl _ | exact Nat.le_succ _) _)
      exact hb0.out
end Go.Proofs.Ytmhdijklindipaa

/- Drawn instructions. -/
namespace Go.Proofs.Ytmhdijklindipaa
open Go.RowKit
set_option linter.unusedVariables false
set_option maxRecDepth 100000

theorem Chg.newD {lo hi : Nat} {w w' : World} (h : Chg lo hi w w') {p : Addr} (hp : w.heap.size ≤ p.block) (u : Value) : Chg lo hi w (w'.setCell p u) :=
  ⟨h.os, h.tape, h.output, by simpa [World.setCell] using h.size, fun j hj hn => (Below.heap_setCell w' p u j (by omega)).trans (h.block j hj hn)⟩
theorem CB.chgD {t : TypeId} {w w' : World} {b lo hi : Nat} {cur : List Value} (h : CB t w b cur) (hc : Chg lo hi w w') (hd : b < lo ∨ hi ≤ b) : CB t w' b cur := (hc.block b h.lt hd).trans h
theorem CB.farD {t : TypeId} {w : World} {b : Nat} {cur : List Value} (h : CB t w b cur) {p : Addr} (hp : p.block ≠ b) (u : Value) : CB t (w.setCell p u) b cur := (Below.heap_setCell w p u b (fun e => hp e.symm)).trans h
theorem XB.five' {w : World} {g : Nat} {x : In} (y : In) (h : XB w g x) :
    XB (((((w.setCell ⟨g, 0, none⟩ (.string y.op)).setCell ⟨g, 1, none⟩ (.int .i64 y.d)).setCell ⟨g, 2, none⟩ (.int .i64 y.a)).setCell ⟨g, 3, none⟩ (.int .i64 y.b)).setCell ⟨g, 4, none⟩ (.int .i64 y.m)) g y := ((((CB.set h 0 _).set 1 _).set 2 _).set 3 _).set 4 _
/-- What a draw of an instruction hands back. -/
def DrX (w : World) (g K : Nat) (e : Ending) (w' : World) : Prop := ∃ x : In, e = .returned (.agg #[.string x.op, .int .i64 x.d, .int .i64 x.a, .int .i64 x.b, .int .i64 x.m]) ∧ x.op.size ≤ 100 ∧ Cur w' g K ∧ Chg g (g + 1) w w'
theorem fm_lohi (s : ByteArray) : 0 ≤ (fm s).lo ∧ (fm s).lo ≤ 1 ∧ 0 ≤ (fm s).hi ∧ (fm s).hi ≤ 63 := by
  show (fun f : Fm => 0 ≤ f.lo ∧ f.lo ≤ 1 ∧ 0 ≤ f.hi ∧ f.hi ≤ 63) (fm s)
  unfold fm
  repeat (refine ite_P (P := fun f : Fm => 0 ≤ f.lo ∧ f.lo ≤ 1 ∧ 0 ≤ f.hi ∧ f.hi ≤ 63) (by decide) ?_)
  decide

def ops21 : List ByteArray := [⟨#[115,101,116]⟩, ⟨#[109,111,118]⟩, ⟨#[110,111,116]⟩, ⟨#[110,101,103]⟩, ⟨#[97,100,100]⟩, ⟨#[97,100,100]⟩, ⟨#[115,117,98]⟩, ⟨#[97,110,100]⟩, ⟨#[111,114]⟩, ⟨#[120,111,114]⟩, ⟨#[115,104,108]⟩, ⟨#[115,104,114]⟩, ⟨#[108,101,115,115]⟩, ⟨#[101,113]⟩, ⟨#[109,117,108]⟩, ⟨#[97,100,100,105]⟩, ⟨#[97,110,100,105]⟩, ⟨#[120,111,114,105]⟩, ⟨#[115,104,108,105]⟩, ⟨#[115,104,114,105]⟩, ⟨#[108,101,97]⟩]
theorem ops21_size : ∀ s ∈ ops21, s.size ≤ 100 := by decide
theorem ops21_cells : (ops21.flatMap encD).toArray = #[.string ⟨#[115,101,116]⟩, .string ⟨#[109,111,118]⟩, .string ⟨#[110,111,116]⟩, .string ⟨#[110,101,103]⟩, .string ⟨#[97,100,100]⟩, .string ⟨#[97,100,100]⟩, .string ⟨#[115,117,98]⟩, .string ⟨#[97,110,100]⟩, .string ⟨#[111,114]⟩, .string ⟨#[120,111,114]⟩, .string ⟨#[115,104,108]⟩, .string ⟨#[115,104,114]⟩, .string ⟨#[108,101,115,115]⟩, .string ⟨#[101,113]⟩, .string ⟨#[109,117,108]⟩, .string ⟨#[97,100,100,105]⟩, .string ⟨#[97,110,100,105]⟩, .string ⟨#[120,111,114,105]⟩, .string ⟨#[115,104,108,105]⟩, .string ⟨#[115,104,114,105]⟩, .string ⟨#[108,101,97]⟩] := rfl

set_option maxHeartbeats 16000000 in
theorem instr_any (g K : Nat) (regs : Int) (w : World) (hK : K ≤ 700000000) (hr : regs ≤ 100) (hc : Cur w g K) :
    Calls Try.prog 234 #[.pointer (some ⟨g, 0, none⟩), .int .i64 regs] w (DrX w g (K + 14)) := by
  have HP := Lib.hid fun (K : Nat) (n : Int) (W : World) (hK : K ≤ 900000000) (hn : n ≤ 10000) (hc : Cur W g K) => pick_any g K n W hK hn hc
  have HW := Lib.hid fun (K : Nat) (W : World) (hK : K ≤ 800000000) (hc : Cur W g K) => word_any g K W hK hc
  have a0 := (Below.refl w.heap.size w).alloc (Nat.le_refl _) (.cells #[.string ⟨#[]⟩, .int .i64 0, .int .i64 0, .int .i64 0, .int .i64 0] 56)
  have hgw := hc.lt
  obtain ⟨gR, hgR⟩ : ∃ x, x = w.heap.size := ⟨_, rfl⟩
  have hY0 : XB (w.alloc (.cells #[.string ⟨#[]⟩, .int .i64 0, .int .i64 0, .int .i64 0, .int .i64 0] 56)) gR ⟨ByteArray.empty, 0, 0, 0, 0⟩ := by rw [hgR]; exact heap_alloc_new w _
  have hc0 := hc.below a0
  have hh0 : Chg g (g + 1) w (w.alloc (.cells #[.string ⟨#[]⟩, .int .i64 0, .int .i64 0, .int .i64 0, .int .i64 0] 56)) := (Chg.refl _ _ _).alloc _
  have hgg : Hid (g < gR) := by unfold Hid; omega
  have hRw : Hid (w.heap.size ≤ gR) := by unfold Hid; omega
  have eW : w.heap.size = gR := hgR.symm
  have hEW := Lib.hid eW
  clear hgR a0 hc
  go_enter Try.func234, Try.ntmps234
  go_upto_region 1 with fail
  generalize w.alloc (.cells #[.string ⟨#[]⟩, .int .i64 0, .int .i64 0, .int .i64 0, .int .i64 0] 56) = W0 at *
  try rw [eW]
  clear eW
  obtain ⟨k1, k2, k3, k4⟩ := lit_cur hc0 hh0 (.cells (ops21.flatMap encD).toArray 9)
  have hO := Lib.hid (of_any g K W0.heap.size (W0.heap.size + 1) (some ⟨W0.heap.size, 0, none⟩) 21 21 ops21 _ rfl (by omega) k1 (by decide) (by decide) (lit_ss W0 ops21) k3 k4)
  have hY1 := Lib.hid (CB.below (show CB 56 W0 gR (In.enc ⟨ByteArray.empty, 0, 0, 0, 0⟩) from hY0) ((Below.refl W0.heap.size W0).alloc (Nat.le_refl _) (.cells (ops21.flatMap encD).toArray 9)) (CB.lt hY0))
  have hH1 := Lib.hid k2
  clear k1 k2 k3 k4 hY0 hc0 hh0
  rw [ops21_cells] at hO hY1 hH1
  go_wp2_with (fail)
  refine hO.out.mono ?_
  rintro e w2 ⟨s, rfl, hmem, hc2, hch2⟩
  have hsz := Lib.hid (ops21_size s hmem)
  have hC2 := Lib.hid hc2
  have hH2 := Lib.hid (hH1.out.trans hch2)
  have hY2 : Hid (XB w2 gR ⟨ByteArray.empty, 0, 0, 0, 0⟩) := CB.chgD hY1.out hch2 (.inr (by have := hgg.out; omega))
  have hlh := Lib.hid (fm_lohi s)
  have HI := Lib.hid fun (W : World) => cdImm_any s W
  clear hmem hc2 hch2 hO hH1 hY1
  go_wp2_with (fail)
  refine (cdShape_any s _).mono ?_
  rintro e w2' ⟨rfl, rfl⟩
  obtain ⟨l1, l2, l3, l4⟩ := hlh.out
  generalize fm s = f at *
  obtain ⟨ok, fa, fb, lo, hi, cc⟩ := f
  dsimp only at *
  clear hlh
  go_wp2_with (fail)
  refine (HP.out (K + 2) regs w2 (by omega) (by omega) hC2.out).mono ?_
  rintro e w3 ⟨d, rfl, _, hc3, hch3⟩
  have hX3 := Lib.hid (show XB (w3.alloc (.cells #[.string s, .int .i64 d, .int .i64 0, .int .i64 0, .int .i64 0] 56)) w3.heap.size ⟨s, d, 0, 0, 0⟩ from heap_alloc_new w3 _)
  have a3 := (Below.refl w3.heap.size w3).alloc (Nat.le_refl _) (.cells #[.string s, .int .i64 d, .int .i64 0, .int .i64 0, .int .i64 0] 56)
  have hY3 := CB.chgD (show CB 56 w2 gR (In.enc ⟨ByteArray.empty, 0, 0, 0, 0⟩) from hY2.out) hch3 (.inr (by have := hgg.out; omega))
  have hYl := CB.lt hY3
  have hY4 : Hid (XB (w3.alloc (.cells #[.string s, .int .i64 d, .int .i64 0, .int .i64 0, .int .i64 0] 56)) gR ⟨ByteArray.empty, 0, 0, 0, 0⟩) := CB.below hY3 a3 hYl
  have hC4 := Lib.hid (hc3.below a3)
  have hH4 := Lib.hid ((hH2.out.trans hch3).alloc (.cells #[.string s, .int .i64 d, .int .i64 0, .int .i64 0, .int .i64 0] 56))
  obtain ⟨gB, hgB⟩ : ∃ x, x = w3.heap.size := ⟨_, rfl⟩
  have hBR : Hid (gR < gB) := by unfold Hid; omega
  have hX4 : Hid (XB (w3.alloc (.cells #[.string s, .int .i64 d, .int .i64 0, .int .i64 0, .int .i64 0] 56)) gB ⟨s, d, 0, 0, 0⟩) := by rw [hgB]; exact hX3.out
  have eB := hgB.symm
  clear hgB hX3 a3 hY3 hYl hc3 hch3 hC2 hH2 hY2
  cases fa <;> cases fb
  · go_wp2_with (fail)
    generalize w3.alloc (.cells #[.string s, .int .i64 d, .int .i64 0, .int .i64 0, .int .i64 0] 56) = W4 at *
    try rw [eB]
    clear eB
    with_reducible refine (HI.out W4).mono ?_
    rintro e w5 ⟨rfl, hbe⟩
    have hX5 := Lib.hid (CB.below (show CB 56 W4 gB (In.enc ⟨s, d, 0, 0, 0⟩) from hX4.out) hbe (CB.lt hX4.out))
    have hY5 := Lib.hid (CB.below (show CB 56 W4 gR (In.enc ⟨ByteArray.empty, 0, 0, 0, 0⟩) from hY4.out) hbe (CB.lt hY4.out))
    have hC5 := Lib.hid (hC4.out.below hbe)
    have hH5 := Lib.hid (hH4.out.trans (Chg.ofBelow hbe))
    clear hbe hX4 hY4 hC4 hH4
    by_cases hm : 0 < hi
    · have hm2 : decide (0 < hi) = true := decide_eq_true hm
      by_cases h63 : hi = 63
      · subst h63
        rw [hm2]
        have hs1 : IntKind.i64.wrap (63 - lo) = 63 - lo := IntWalk.i64_in _ (by omega)
        have hs2 : IntKind.i64.wrap (63 - lo + 1) = 63 - lo + 1 := IntWalk.i64_in _ (by omega)
        go_wp2_with (fail)
        with_reducible refine (HP.out (K + 4) (63 - lo + 1) w5 (by omega) (by omega) hC5.out).mono ?_
        rintro e w6 ⟨xm, rfl, hxm, hcu, hch⟩
        have hX6 := Lib.hid (CB.chgD (show CB 56 w5 gB (In.enc ⟨s, d, 0, 0, 0⟩) from hX5.out) hch (.inr (by have := hgg.out; have := hBR.out; omega)))
        have hY6 := Lib.hid (CB.chgD (show CB 56 w5 gR (In.enc ⟨ByteArray.empty, 0, 0, 0, 0⟩) from hY5.out) hch (.inr (by have := hgg.out; omega)))
        have hC6 := Lib.hid hcu
        have hH6 := Lib.hid (hH5.out.trans hch)
        clear hcu hch hX5 hY5 hC5 hH5
        have hs3 : IntKind.i64.wrap (lo + xm) = lo + xm := IntWalk.i64_in _ (by omega)
        have f7 := CB.frozen (show CB 56 w6 gB (In.enc ⟨s, d, 0, 0, 0⟩) from hX6.out) 4
        have o7 := (CB.cell (show CB 56 w6 gB (In.enc ⟨s, d, 0, 0, 0⟩) from hX6.out) 4).trans (rfl : _ = some (Value.int .i64 (0)))
        have hX7 : Hid (XB (w6.setCell ⟨gB, 4, none⟩ (.int .i64 (lo + xm))) gB ⟨s, d, 0, 0, (lo + xm)⟩) := CB.set (show CB 56 w6 gB (In.enc ⟨s, d, 0, 0, 0⟩) from hX6.out) 4 (.int .i64 (lo + xm))
        have hY7 : Hid (XB (w6.setCell ⟨gB, 4, none⟩ (.int .i64 (lo + xm))) gR ⟨ByteArray.empty, 0, 0, 0, 0⟩) := CB.farD (show CB 56 w6 gR (In.enc ⟨ByteArray.empty, 0, 0, 0, 0⟩) from hY6.out) (p := ⟨gB, 4, none⟩) (by show gB ≠ gR; have := hBR.out; omega) _
        have hC7 : Hid (Cur (w6.setCell ⟨gB, 4, none⟩ (.int .i64 (lo + xm))) g (K + 6)) := hC6.out.far (p := ⟨gB, 4, none⟩) (by show g < gB; have := hgg.out; have := hBR.out; omega) _
        have hH7 : Hid (Chg g (g + 1) w (w6.setCell ⟨gB, 4, none⟩ (.int .i64 (lo + xm)))) := hH6.out.newD (p := ⟨gB, 4, none⟩) (by show w.heap.size ≤ gB; have := hRw.out; have := hBR.out; omega) _
        clear hX6 hY6 hC6 hH6
        go_wp2_with (fail)
        with_reducible refine (HW.out (K + 6) (w6.setCell ⟨gB, 4, none⟩ (.int .i64 (lo + xm))) (by omega) hC7.out).mono ?_
        rintro e w8 ⟨xw, rfl, _, hcu, hch⟩
        have hX8 := Lib.hid (CB.chgD (show CB 56 (w6.setCell ⟨gB, 4, none⟩ (.int .i64 (lo + xm))) gB (In.enc ⟨s, d, 0, 0, (lo + xm)⟩) from hX7.out) hch (.inr (by have := hgg.out; have := hBR.out; omega)))
        have hY8 := Lib.hid (CB.chgD (show CB 56 (w6.setCell ⟨gB, 4, none⟩ (.int .i64 (lo + xm))) gR (In.enc ⟨ByteArray.empty, 0, 0, 0, 0⟩) from hY7.out) hch (.inr (by have := hgg.out; omega)))
        have hC8 := Lib.hid hcu
        have hH8 := Lib.hid (hH7.out.trans hch)
        clear hcu hch hX7 hY7 hC7 hH7
        have f9 := CB.frozen (show CB 56 w8 gB (In.enc ⟨s, d, 0, 0, (lo + xm)⟩) from hX8.out) 4
        have o9 := (CB.cell (show CB 56 w8 gB (In.enc ⟨s, d, 0, 0, (lo + xm)⟩) from hX8.out) 4).trans (rfl : _ = some (Value.int .i64 ((lo + xm))))
        have hX9 : Hid (XB (w8.setCell ⟨gB, 4, none⟩ (.int .i64 (xw))) gB ⟨s, d, 0, 0, (xw)⟩) := CB.set (show CB 56 w8 gB (In.enc ⟨s, d, 0, 0, (lo + xm)⟩) from hX8.out) 4 (.int .i64 (xw))
        have hY9 : Hid (XB (w8.setCell ⟨gB, 4, none⟩ (.int .i64 (xw))) gR ⟨ByteArray.empty, 0, 0, 0, 0⟩) := CB.farD (show CB 56 w8 gR (In.enc ⟨ByteArray.empty, 0, 0, 0, 0⟩) from hY8.out) (p := ⟨gB, 4, none⟩) (by show gB ≠ gR; have := hBR.out; omega) _
        have hC9 : Hid (Cur (w8.setCell ⟨gB, 4, none⟩ (.int .i64 (xw))) g (K + 10)) := hC8.out.far (p := ⟨gB, 4, none⟩) (by show g < gB; have := hgg.out; have := hBR.out; omega) _
        have hH9 : Hid (Chg g (g + 1) w (w8.setCell ⟨gB, 4, none⟩ (.int .i64 (xw)))) := hH8.out.newD (p := ⟨gB, 4, none⟩) (by show w.heap.size ≤ gB; have := hRw.out; have := hBR.out; omega) _
        clear hX8 hY8 hC8 hH8
        obtain ⟨x0, x1, x2, x3, x4⟩ := XB.cells hX9.out
        simp only at x0 x1 x2 x3 x4
        have p0 := CB.frozen (show CB 56 (w8.setCell ⟨gB, 4, none⟩ (.int .i64 (xw))) gR (In.enc ⟨ByteArray.empty, 0, 0, 0, 0⟩) from hY9.out) 0
        have p1 := CB.frozen (show CB 56 (w8.setCell ⟨gB, 4, none⟩ (.int .i64 (xw))) gR (In.enc ⟨ByteArray.empty, 0, 0, 0, 0⟩) from hY9.out) 1
        have p2 := CB.frozen (show CB 56 (w8.setCell ⟨gB, 4, none⟩ (.int .i64 (xw))) gR (In.enc ⟨ByteArray.empty, 0, 0, 0, 0⟩) from hY9.out) 2
        have p3 := CB.frozen (show CB 56 (w8.setCell ⟨gB, 4, none⟩ (.int .i64 (xw))) gR (In.enc ⟨ByteArray.empty, 0, 0, 0, 0⟩) from hY9.out) 3
        have p4 := CB.frozen (show CB 56 (w8.setCell ⟨gB, 4, none⟩ (.int .i64 (xw))) gR (In.enc ⟨ByteArray.empty, 0, 0, 0, 0⟩) from hY9.out) 4
        obtain ⟨y0, y1, y2, y3, y4⟩ := XB.cells hY9.out
        simp only at y0 y1 y2 y3 y4
        have hne : ¬ gR = gB := by have := hBR.out; omega
        have hne2 : ¬ gB = gR := by have := hBR.out; omega
        go_wp2
        refine bodyPost_ret (v := .agg #[.string s, .int .i64 (d), .int .i64 (0), .int .i64 (0), .int .i64 ((xw))]) ?_ rfl ⟨⟨s, d, 0, 0, (xw)⟩, rfl, hsz.out, ?_, ?_⟩
        · obtain ⟨z0, z1, z2, z3, z4⟩ := (XB.five' ⟨s, d, 0, 0, (xw)⟩ hY9.out).cells
          generalize (World.setCell _ ⟨gR, 4, none⟩ _) = W at z0 z1 z2 z3 z4 ⊢
          simp only at z0 z1 z2 z3 z4
          simp [results, Try.results234, go_sem, z0, z1, z2, z3, z4]
        · have hcu := hC9.out.more (show K + 10 ≤ K + 14 by omega)
          exact ((((hcu.far (p := ⟨gR, 0, none⟩) hgg.out _).far (p := ⟨gR, 1, none⟩) hgg.out _).far (p := ⟨gR, 2, none⟩) hgg.out _).far (p := ⟨gR, 3, none⟩) hgg.out _).far (p := ⟨gR, 4, none⟩) hgg.out _
        · exact ((((hH9.out.newD (p := ⟨gR, 0, none⟩) hRw.out _).newD (p := ⟨gR, 1, none⟩) hRw.out _).newD (p := ⟨gR, 2, none⟩) hRw.out _).newD (p := ⟨gR, 3, none⟩) hRw.out _).newD (p := ⟨gR, 4, none⟩) hRw.out _
      · have h63' := Lib.hid h63
        clear h63
        rw [hm2]
        have hs1 : IntKind.i64.wrap (hi - lo) = hi - lo := IntWalk.i64_in _ (by omega)
        have hs2 : IntKind.i64.wrap (hi - lo + 1) = hi - lo + 1 := IntWalk.i64_in _ (by omega)
        have hs0 : (hi == 63) = false := by have := h63'.out; simpa using this
        go_wp2_with (fail)
        with_reducible refine (HP.out (K + 4) (hi - lo + 1) w5 (by omega) (by omega) hC5.out).mono ?_
        rintro e w6 ⟨xm, rfl, hxm, hcu, hch⟩
        have hX6 := Lib.hid (CB.chgD (show CB 56 w5 gB (In.enc ⟨s, d, 0, 0, 0⟩) from hX5.out) hch (.inr (by have := hgg.out; have := hBR.out; omega)))
        have hY6 := Lib.hid (CB.chgD (show CB 56 w5 gR (In.enc ⟨ByteArray.empty, 0, 0, 0, 0⟩) from hY5.out) hch (.inr (by have := hgg.out; omega)))
        have hC6 := Lib.hid hcu
        have hH6 := Lib.hid (hH5.out.trans hch)
        clear hcu hch hX5 hY5 hC5 hH5
        have hs3 : IntKind.i64.wrap (lo + xm) = lo + xm := IntWalk.i64_in _ (by omega)
        have f7 := CB.frozen (show CB 56 w6 gB (In.enc ⟨s, d, 0, 0, 0⟩) from hX6.out) 4
        have o7 := (CB.cell (show CB 56 w6 gB (In.enc ⟨s, d, 0, 0, 0⟩) from hX6.out) 4).trans (rfl : _ = some (Value.int .i64 (0)))
        have hX7 : Hid (XB (w6.setCell ⟨gB, 4, none⟩ (.int .i64 (lo + xm))) gB ⟨s, d, 0, 0, (lo + xm)⟩) := CB.set (show CB 56 w6 gB (In.enc ⟨s, d, 0, 0, 0⟩) from hX6.out) 4 (.int .i64 (lo + xm))
        have hY7 : Hid (XB (w6.setCell ⟨gB, 4, none⟩ (.int .i64 (lo + xm))) gR ⟨ByteArray.empty, 0, 0, 0, 0⟩) := CB.farD (show CB 56 w6 gR (In.enc ⟨ByteArray.empty, 0, 0, 0, 0⟩) from hY6.out) (p := ⟨gB, 4, none⟩) (by show gB ≠ gR; have := hBR.out; omega) _
        have hC7 : Hid (Cur (w6.setCell ⟨gB, 4, none⟩ (.int .i64 (lo + xm))) g (K + 6)) := hC6.out.far (p := ⟨gB, 4, none⟩) (by show g < gB; have := hgg.out; have := hBR.out; omega) _
        have hH7 : Hid (Chg g (g + 1) w (w6.setCell ⟨gB, 4, none⟩ (.int .i64 (lo + xm)))) := hH6.out.newD (p := ⟨gB, 4, none⟩) (by show w.heap.size ≤ gB; have := hRw.out; have := hBR.out; omega) _
        clear hX6 hY6 hC6 hH6
        obtain ⟨x0, x1, x2, x3, x4⟩ := XB.cells hX7.out
        simp only at x0 x1 x2 x3 x4
        have p0 := CB.frozen (show CB 56 (w6.setCell ⟨gB, 4, none⟩ (.int .i64 (lo + xm))) gR (In.enc ⟨ByteArray.empty, 0, 0, 0, 0⟩) from hY7.out) 0
        have p1 := CB.frozen (show CB 56 (w6.setCell ⟨gB, 4, none⟩ (.int .i64 (lo + xm))) gR (In.enc ⟨ByteArray.empty, 0, 0, 0, 0⟩) from hY7.out) 1
        have p2 := CB.frozen (show CB 56 (w6.setCell ⟨gB, 4, none⟩ (.int .i64 (lo + xm))) gR (In.enc ⟨ByteArray.empty, 0, 0, 0, 0⟩) from hY7.out) 2
        have p3 := CB.frozen (show CB 56 (w6.setCell ⟨gB, 4, none⟩ (.int .i64 (lo + xm))) gR (In.enc ⟨ByteArray.empty, 0, 0, 0, 0⟩) from hY7.out) 3
        have p4 := CB.frozen (show CB 56 (w6.setCell ⟨gB, 4, none⟩ (.int .i64 (lo + xm))) gR (In.enc ⟨ByteArray.empty, 0, 0, 0, 0⟩) from hY7.out) 4
        obtain ⟨y0, y1, y2, y3, y4⟩ := XB.cells hY7.out
        simp only at y0 y1 y2 y3 y4
        have hne : ¬ gR = gB := by have := hBR.out; omega
        have hne2 : ¬ gB = gR := by have := hBR.out; omega
        go_wp2
        refine bodyPost_ret (v := .agg #[.string s, .int .i64 (d), .int .i64 (0), .int .i64 (0), .int .i64 ((lo + xm))]) ?_ rfl ⟨⟨s, d, 0, 0, (lo + xm)⟩, rfl, hsz.out, ?_, ?_⟩
        · obtain ⟨z0, z1, z2, z3, z4⟩ := (XB.five' ⟨s, d, 0, 0, (lo + xm)⟩ hY7.out).cells
          generalize (World.setCell _ ⟨gR, 4, none⟩ _) = W at z0 z1 z2 z3 z4 ⊢
          simp only at z0 z1 z2 z3 z4
          simp [results, Try.results234, go_sem, z0, z1, z2, z3, z4]
        · have hcu := hC7.out.more (show K + 6 ≤ K + 14 by omega)
          exact ((((hcu.far (p := ⟨gR, 0, none⟩) hgg.out _).far (p := ⟨gR, 1, none⟩) hgg.out _).far (p := ⟨gR, 2, none⟩) hgg.out _).far (p := ⟨gR, 3, none⟩) hgg.out _).far (p := ⟨gR, 4, none⟩) hgg.out _
        · exact ((((hH7.out.newD (p := ⟨gR, 0, none⟩) hRw.out _).newD (p := ⟨gR, 1, none⟩) hRw.out _).newD (p := ⟨gR, 2, none⟩) hRw.out _).newD (p := ⟨gR, 3, none⟩) hRw.out _).newD (p := ⟨gR, 4, none⟩) hRw.out _
    · have hm2 : decide (0 < hi) = false := decide_eq_false hm
      rw [hm2]
      obtain ⟨x0, x1, x2, x3, x4⟩ := XB.cells hX5.out
      simp only at x0 x1 x2 x3 x4
      have p0 := CB.frozen (show CB 56 w5 gR (In.enc ⟨ByteArray.empty, 0, 0, 0, 0⟩) from hY5.out) 0
      have p1 := CB.frozen (show CB 56 w5 gR (In.enc ⟨ByteArray.empty, 0, 0, 0, 0⟩) from hY5.out) 1
      have p2 := CB.frozen (show CB 56 w5 gR (In.enc ⟨ByteArray.empty, 0, 0, 0, 0⟩) from hY5.out) 2
      have p3 := CB.frozen (show CB 56 w5 gR (In.enc ⟨ByteArray.empty, 0, 0, 0, 0⟩) from hY5.out) 3
      have p4 := CB.frozen (show CB 56 w5 gR (In.enc ⟨ByteArray.empty, 0, 0, 0, 0⟩) from hY5.out) 4
      obtain ⟨y0, y1, y2, y3, y4⟩ := XB.cells hY5.out
      simp only at y0 y1 y2 y3 y4
      have hne : ¬ gR = gB := by have := hBR.out; omega
      have hne2 : ¬ gB = gR := by have := hBR.out; omega
      go_wp2
      refine bodyPost_ret (v := .agg #[.string s, .int .i64 (d), .int .i64 (0), .int .i64 (0), .int .i64 (0)]) ?_ rfl ⟨⟨s, d, 0, 0, 0⟩, rfl, hsz.out, ?_, ?_⟩
      · obtain ⟨z0, z1, z2, z3, z4⟩ := (XB.five' ⟨s, d, 0, 0, 0⟩ hY5.out).cells
        generalize (World.setCell _ ⟨gR, 4, none⟩ _) = W at z0 z1 z2 z3 z4 ⊢
        simp only at z0 z1 z2 z3 z4
        simp [results, Try.results234, go_sem, z0, z1, z2, z3, z4]
      · have hcu := hC5.out.more (show K + 4 ≤ K + 14 by omega)
        exact ((((hcu.far (p := ⟨gR, 0, none⟩) hgg.out _).far (p := ⟨gR, 1, none⟩) hgg.out _).far (p := ⟨gR, 2, none⟩) hgg.out _).far (p := ⟨gR, 3, none⟩) hgg.out _).far (p := ⟨gR, 4, none⟩) hgg.out _
      · exact ((((hH5.out.newD (p := ⟨gR, 0, none⟩) hRw.out _).newD (p := ⟨gR, 1, none⟩) hRw.out _).newD (p := ⟨gR, 2, none⟩) hRw.out _).newD (p := ⟨gR, 3, none⟩) hRw.out _).newD (p := ⟨gR, 4, none⟩) hRw.out _
  · go_wp2_with (fail)
    generalize w3.alloc (.cells #[.string s, .int .i64 d, .int .i64 0, .int .i64 0, .int .i64 0] 56) = W4 at *
    try rw [eB]
    clear eB
    with_reducible refine (HP.out (K + 4) regs W4 (by omega) (by omega) hC4.out).mono ?_
    rintro e w5 ⟨xb, rfl, _, hcu, hch⟩
    have hX5 := Lib.hid (CB.chgD (show CB 56 W4 gB (In.enc ⟨s, d, 0, 0, 0⟩) from hX4.out) hch (.inr (by have := hgg.out; have := hBR.out; omega)))
    have hY5 := Lib.hid (CB.chgD (show CB 56 W4 gR (In.enc ⟨ByteArray.empty, 0, 0, 0, 0⟩) from hY4.out) hch (.inr (by have := hgg.out; omega)))
    have hC5 := Lib.hid hcu
    have hH5 := Lib.hid (hH4.out.trans hch)
    clear hcu hch hX4 hY4 hC4 hH4
    have f6 := CB.frozen (show CB 56 w5 gB (In.enc ⟨s, d, 0, 0, 0⟩) from hX5.out) 3
    have o6 := (CB.cell (show CB 56 w5 gB (In.enc ⟨s, d, 0, 0, 0⟩) from hX5.out) 3).trans (rfl : _ = some (Value.int .i64 (0)))
    have hX6 : Hid (XB (w5.setCell ⟨gB, 3, none⟩ (.int .i64 (xb))) gB ⟨s, d, 0, (xb), 0⟩) := CB.set (show CB 56 w5 gB (In.enc ⟨s, d, 0, 0, 0⟩) from hX5.out) 3 (.int .i64 (xb))
    have hY6 : Hid (XB (w5.setCell ⟨gB, 3, none⟩ (.int .i64 (xb))) gR ⟨ByteArray.empty, 0, 0, 0, 0⟩) := CB.farD (show CB 56 w5 gR (In.enc ⟨ByteArray.empty, 0, 0, 0, 0⟩) from hY5.out) (p := ⟨gB, 3, none⟩) (by show gB ≠ gR; have := hBR.out; omega) _
    have hC6 : Hid (Cur (w5.setCell ⟨gB, 3, none⟩ (.int .i64 (xb))) g (K + 6)) := hC5.out.far (p := ⟨gB, 3, none⟩) (by show g < gB; have := hgg.out; have := hBR.out; omega) _
    have hH6 : Hid (Chg g (g + 1) w (w5.setCell ⟨gB, 3, none⟩ (.int .i64 (xb)))) := hH5.out.newD (p := ⟨gB, 3, none⟩) (by show w.heap.size ≤ gB; have := hRw.out; have := hBR.out; omega) _
    clear hX5 hY5 hC5 hH5
    go_wp2_with (fail)
    with_reducible refine (HI.out (w5.setCell ⟨gB, 3, none⟩ (.int .i64 (xb)))).mono ?_
    rintro e w7 ⟨rfl, hbe⟩
    have hX7 := Lib.hid (CB.below (show CB 56 (w5.setCell ⟨gB, 3, none⟩ (.int .i64 (xb))) gB (In.enc ⟨s, d, 0, (xb), 0⟩) from hX6.out) hbe (CB.lt hX6.out))
    have hY7 := Lib.hid (CB.below (show CB 56 (w5.setCell ⟨gB, 3, none⟩ (.int .i64 (xb))) gR (In.enc ⟨ByteArray.empty, 0, 0, 0, 0⟩) from hY6.out) hbe (CB.lt hY6.out))
    have hC7 := Lib.hid (hC6.out.below hbe)
    have hH7 := Lib.hid (hH6.out.trans (Chg.ofBelow hbe))
    clear hbe hX6 hY6 hC6 hH6
    by_cases hm : 0 < hi
    · have hm2 : decide (0 < hi) = true := decide_eq_true hm
      by_cases h63 : hi = 63
      · subst h63
        rw [hm2]
        have hs1 : IntKind.i64.wrap (63 - lo) = 63 - lo := IntWalk.i64_in _ (by omega)
        have hs2 : IntKind.i64.wrap (63 - lo + 1) = 63 - lo + 1 := IntWalk.i64_in _ (by omega)
        go_wp2_with (fail)
        with_reducible refine (HP.out (K + 6) (63 - lo + 1) w7 (by omega) (by omega) hC7.out).mono ?_
        rintro e w8 ⟨xm, rfl, hxm, hcu, hch⟩
        have hX8 := Lib.hid (CB.chgD (show CB 56 w7 gB (In.enc ⟨s, d, 0, (xb), 0⟩) from hX7.out) hch (.inr (by have := hgg.out; have := hBR.out; omega)))
        have hY8 := Lib.hid (CB.chgD (show CB 56 w7 gR (In.enc ⟨ByteArray.empty, 0, 0, 0, 0⟩) from hY7.out) hch (.inr (by have := hgg.out; omega)))
        have hC8 := Lib.hid hcu
        have hH8 := Lib.hid (hH7.out.trans hch)
        clear hcu hch hX7 hY7 hC7 hH7
        have hs3 : IntKind.i64.wrap (lo + xm) = lo + xm := IntWalk.i64_in _ (by omega)
        have f9 := CB.frozen (show CB 56 w8 gB (In.enc ⟨s, d, 0, (xb), 0⟩) from hX8.out) 4
        have o9 := (CB.cell (show CB 56 w8 gB (In.enc ⟨s, d, 0, (xb), 0⟩) from hX8.out) 4).trans (rfl : _ = some (Value.int .i64 (0)))
        have hX9 : Hid (XB (w8.setCell ⟨gB, 4, none⟩ (.int .i64 (lo + xm))) gB ⟨s, d, 0, (xb), (lo + xm)⟩) := CB.set (show CB 56 w8 gB (In.enc ⟨s, d, 0, (xb), 0⟩) from hX8.out) 4 (.int .i64 (lo + xm))
        have hY9 : Hid (XB (w8.setCell ⟨gB, 4, none⟩ (.int .i64 (lo + xm))) gR ⟨ByteArray.empty, 0, 0, 0, 0⟩) := CB.farD (show CB 56 w8 gR (In.enc ⟨ByteArray.empty, 0, 0, 0, 0⟩) from hY8.out) (p := ⟨gB, 4, none⟩) (by show gB ≠ gR; have := hBR.out; omega) _
        have hC9 : Hid (Cur (w8.setCell ⟨gB, 4, none⟩ (.int .i64 (lo + xm))) g (K + 8)) := hC8.out.far (p := ⟨gB, 4, none⟩) (by show g < gB; have := hgg.out; have := hBR.out; omega) _
        have hH9 : Hid (Chg g (g + 1) w (w8.setCell ⟨gB, 4, none⟩ (.int .i64 (lo + xm)))) := hH8.out.newD (p := ⟨gB, 4, none⟩) (by show w.heap.size ≤ gB; have := hRw.out; have := hBR.out; omega) _
        clear hX8 hY8 hC8 hH8
        go_wp2_with (fail)
        with_reducible refine (HW.out (K + 8) (w8.setCell ⟨gB, 4, none⟩ (.int .i64 (lo + xm))) (by omega) hC9.out).mono ?_
        rintro e w10 ⟨xw, rfl, _, hcu, hch⟩
        have hX10 := Lib.hid (CB.chgD (show CB 56 (w8.setCell ⟨gB, 4, none⟩ (.int .i64 (lo + xm))) gB (In.enc ⟨s, d, 0, (xb), (lo + xm)⟩) from hX9.out) hch (.inr (by have := hgg.out; have := hBR.out; omega)))
        have hY10 := Lib.hid (CB.chgD (show CB 56 (w8.setCell ⟨gB, 4, none⟩ (.int .i64 (lo + xm))) gR (In.enc ⟨ByteArray.empty, 0, 0, 0, 0⟩) from hY9.out) hch (.inr (by have := hgg.out; omega)))
        have hC10 := Lib.hid hcu
        have hH10 := Lib.hid (hH9.out.trans hch)
        clear hcu hch hX9 hY9 hC9 hH9
        have f11 := CB.frozen (show CB 56 w10 gB (In.enc ⟨s, d, 0, (xb), (lo + xm)⟩) from hX10.out) 4
        have o11 := (CB.cell (show CB 56 w10 gB (In.enc ⟨s, d, 0, (xb), (lo + xm)⟩) from hX10.out) 4).trans (rfl : _ = some (Value.int .i64 ((lo + xm))))
        have hX11 : Hid (XB (w10.setCell ⟨gB, 4, none⟩ (.int .i64 (xw))) gB ⟨s, d, 0, (xb), (xw)⟩) := CB.set (show CB 56 w10 gB (In.enc ⟨s, d, 0, (xb), (lo + xm)⟩) from hX10.out) 4 (.int .i64 (xw))
        have hY11 : Hid (XB (w10.setCell ⟨gB, 4, none⟩ (.int .i64 (xw))) gR ⟨ByteArray.empty, 0, 0, 0, 0⟩) := CB.farD (show CB 56 w10 gR (In.enc ⟨ByteArray.empty, 0, 0, 0, 0⟩) from hY10.out) (p := ⟨gB, 4, none⟩) (by show gB ≠ gR; have := hBR.out; omega) _
        have hC11 : Hid (Cur (w10.setCell ⟨gB, 4, none⟩ (.int .i64 (xw))) g (K + 12)) := hC10.out.far (p := ⟨gB, 4, none⟩) (by show g < gB; have := hgg.out; have := hBR.out; omega) _
        have hH11 : Hid (Chg g (g + 1) w (w10.setCell ⟨gB, 4, none⟩ (.int .i64 (xw)))) := hH10.out.newD (p := ⟨gB, 4, none⟩) (by show w.heap.size ≤ gB; have := hRw.out; have := hBR.out; omega) _
        clear hX10 hY10 hC10 hH10
        obtain ⟨x0, x1, x2, x3, x4⟩ := XB.cells hX11.out
        simp only at x0 x1 x2 x3 x4
        have p0 := CB.frozen (show CB 56 (w10.setCell ⟨gB, 4, none⟩ (.int .i64 (xw))) gR (In.enc ⟨ByteArray.empty, 0, 0, 0, 0⟩) from hY11.out) 0
        have p1 := CB.frozen (show CB 56 (w10.setCell ⟨gB, 4, none⟩ (.int .i64 (xw))) gR (In.enc ⟨ByteArray.empty, 0, 0, 0, 0⟩) from hY11.out) 1
        have p2 := CB.frozen (show CB 56 (w10.setCell ⟨gB, 4, none⟩ (.int .i64 (xw))) gR (In.enc ⟨ByteArray.empty, 0, 0, 0, 0⟩) from hY11.out) 2
        have p3 := CB.frozen (show CB 56 (w10.setCell ⟨gB, 4, none⟩ (.int .i64 (xw))) gR (In.enc ⟨ByteArray.empty, 0, 0, 0, 0⟩) from hY11.out) 3
        have p4 := CB.frozen (show CB 56 (w10.setCell ⟨gB, 4, none⟩ (.int .i64 (xw))) gR (In.enc ⟨ByteArray.empty, 0, 0, 0, 0⟩) from hY11.out) 4
        obtain ⟨y0, y1, y2, y3, y4⟩ := XB.cells hY11.out
        simp only at y0 y1 y2 y3 y4
        have hne : ¬ gR = gB := by have := hBR.out; omega
        have hne2 : ¬ gB = gR := by have := hBR.out; omega
        go_wp2
        refine bodyPost_ret (v := .agg #[.string s, .int .i64 (d), .int .i64 (0), .int .i64 ((xb)), .int .i64 ((xw))]) ?_ rfl ⟨⟨s, d, 0, (xb), (xw)⟩, rfl, hsz.out, ?_, ?_⟩
        · obtain ⟨z0, z1, z2, z3, z4⟩ := (XB.five' ⟨s, d, 0, (xb), (xw)⟩ hY11.out).cells
          generalize (World.setCell _ ⟨gR, 4, none⟩ _) = W at z0 z1 z2 z3 z4 ⊢
          simp only at z0 z1 z2 z3 z4
          simp [results, Try.results234, go_sem, z0, z1, z2, z3, z4]
        · have hcu := hC11.out.more (show K + 12 ≤ K + 14 by omega)
          exact ((((hcu.far (p := ⟨gR, 0, none⟩) hgg.out _).far (p := ⟨gR, 1, none⟩) hgg.out _).far (p := ⟨gR, 2, none⟩) hgg.out _).far (p := ⟨gR, 3, none⟩) hgg.out _).far (p := ⟨gR, 4, none⟩) hgg.out _
        · exact ((((hH11.out.newD (p := ⟨gR, 0, none⟩) hRw.out _).newD (p := ⟨gR, 1, none⟩) hRw.out _).newD (p := ⟨gR, 2, none⟩) hRw.out _).newD (p := ⟨gR, 3, none⟩) hRw.out _).newD (p := ⟨gR, 4, none⟩) hRw.out _
      · have h63' := Lib.hid h63
        clear h63
        rw [hm2]
        have hs1 : IntKind.i64.wrap (hi - lo) = hi - lo := IntWalk.i64_in _ (by omega)
        have hs2 : IntKind.i64.wrap (hi - lo + 1) = hi - lo + 1 := IntWalk.i64_in _ (by omega)
        have hs0 : (hi == 63) = false := by have := h63'.out; simpa using this
        go_wp2_with (fail)
        with_reducible refine (HP.out (K + 6) (hi - lo + 1) w7 (by omega) (by omega) hC7.out).mono ?_
        rintro e w8 ⟨xm, rfl, hxm, hcu, hch⟩
        have hX8 := Lib.hid (CB.chgD (show CB 56 w7 gB (In.enc ⟨s, d, 0, (xb), 0⟩) from hX7.out) hch (.inr (by have := hgg.out; have := hBR.out; omega)))
        have hY8 := Lib.hid (CB.chgD (show CB 56 w7 gR (In.enc ⟨ByteArray.empty, 0, 0, 0, 0⟩) from hY7.out) hch (.inr (by have := hgg.out; omega)))
        have hC8 := Lib.hid hcu
        have hH8 := Lib.hid (hH7.out.trans hch)
        clear hcu hch hX7 hY7 hC7 hH7
        have hs3 : IntKind.i64.wrap (lo + xm) = lo + xm := IntWalk.i64_in _ (by omega)
        have f9 := CB.frozen (show CB 56 w8 gB (In.enc ⟨s, d, 0, (xb), 0⟩) from hX8.out) 4
        have o9 := (CB.cell (show CB 56 w8 gB (In.enc ⟨s, d, 0, (xb), 0⟩) from hX8.out) 4).trans (rfl : _ = some (Value.int .i64 (0)))
        have hX9 : Hid (XB (w8.setCell ⟨gB, 4, none⟩ (.int .i64 (lo + xm))) gB ⟨s, d, 0, (xb), (lo + xm)⟩) := CB.set (show CB 56 w8 gB (In.enc ⟨s, d, 0, (xb), 0⟩) from hX8.out) 4 (.int .i64 (lo + xm))
        have hY9 : Hid (XB (w8.setCell ⟨gB, 4, none⟩ (.int .i64 (lo + xm))) gR ⟨ByteArray.empty, 0, 0, 0, 0⟩) := CB.farD (show CB 56 w8 gR (In.enc ⟨ByteArray.empty, 0, 0, 0, 0⟩) from hY8.out) (p := ⟨gB, 4, none⟩) (by show gB ≠ gR; have := hBR.out; omega) _
        have hC9 : Hid (Cur (w8.setCell ⟨gB, 4, none⟩ (.int .i64 (lo + xm))) g (K + 8)) := hC8.out.far (p := ⟨gB, 4, none⟩) (by show g < gB; have := hgg.out; have := hBR.out; omega) _
        have hH9 : Hid (Chg g (g + 1) w (w8.setCell ⟨gB, 4, none⟩ (.int .i64 (lo + xm)))) := hH8.out.newD (p := ⟨gB, 4, none⟩) (by show w.heap.size ≤ gB; have := hRw.out; have := hBR.out; omega) _
        clear hX8 hY8 hC8 hH8
        obtain ⟨x0, x1, x2, x3, x4⟩ := XB.cells hX9.out
        simp only at x0 x1 x2 x3 x4
        have p0 := CB.frozen (show CB 56 (w8.setCell ⟨gB, 4, none⟩ (.int .i64 (lo + xm))) gR (In.enc ⟨ByteArray.empty, 0, 0, 0, 0⟩) from hY9.out) 0
        have p1 := CB.frozen (show CB 56 (w8.setCell ⟨gB, 4, none⟩ (.int .i64 (lo + xm))) gR (In.enc ⟨ByteArray.empty, 0, 0, 0, 0⟩) from hY9.out) 1
        have p2 := CB.frozen (show CB 56 (w8.setCell ⟨gB, 4, none⟩ (.int .i64 (lo + xm))) gR (In.enc ⟨ByteArray.empty, 0, 0, 0, 0⟩) from hY9.out) 2
        have p3 := CB.frozen (show CB 56 (w8.setCell ⟨gB, 4, none⟩ (.int .i64 (lo + xm))) gR (In.enc ⟨ByteArray.empty, 0, 0, 0, 0⟩) from hY9.out) 3
        have p4 := CB.frozen (show CB 56 (w8.setCell ⟨gB, 4, none⟩ (.int .i64 (lo + xm))) gR (In.enc ⟨ByteArray.empty, 0, 0, 0, 0⟩) from hY9.out) 4
        obtain ⟨y0, y1, y2, y3, y4⟩ := XB.cells hY9.out
        simp only at y0 y1 y2 y3 y4
        have hne : ¬ gR = gB := by have := hBR.out; omega
        have hne2 : ¬ gB = gR := by have := hBR.out; omega
        go_wp2
        refine bodyPost_ret (v := .agg #[.string s, .int .i64 (d), .int .i64 (0), .int .i64 ((xb)), .int .i64 ((lo + xm))]) ?_ rfl ⟨⟨s, d, 0, (xb), (lo + xm)⟩, rfl, hsz.out, ?_, ?_⟩
        · obtain ⟨z0, z1, z2, z3, z4⟩ := (XB.five' ⟨s, d, 0, (xb), (lo + xm)⟩ hY9.out).cells
          generalize (World.setCell _ ⟨gR, 4, none⟩ _) = W at z0 z1 z2 z3 z4 ⊢
          simp only at z0 z1 z2 z3 z4
          simp [results, Try.results234, go_sem, z0, z1, z2, z3, z4]
        · have hcu := hC9.out.more (show K + 8 ≤ K + 14 by omega)
          exact ((((hcu.far (p := ⟨gR, 0, none⟩) hgg.out _).far (p := ⟨gR, 1, none⟩) hgg.out _).far (p := ⟨gR, 2, none⟩) hgg.out _).far (p := ⟨gR, 3, none⟩) hgg.out _).far (p := ⟨gR, 4, none⟩) hgg.out _
        · exact ((((hH9.out.newD (p := ⟨gR, 0, none⟩) hRw.out _).newD (p := ⟨gR, 1, none⟩) hRw.out _).newD (p := ⟨gR, 2, none⟩) hRw.out _).newD (p := ⟨gR, 3, none⟩) hRw.out _).newD (p := ⟨gR, 4, none⟩) hRw.out _
    · have hm2 : decide (0 < hi) = false := decide_eq_false hm
      rw [hm2]
      obtain ⟨x0, x1, x2, x3, x4⟩ := XB.cells hX7.out
      simp only at x0 x1 x2 x3 x4
      have p0 := CB.frozen (show CB 56 w7 gR (In.enc ⟨ByteArray.empty, 0, 0, 0, 0⟩) from hY7.out) 0
      have p1 := CB.frozen (show CB 56 w7 gR (In.enc ⟨ByteArray.empty, 0, 0, 0, 0⟩) from hY7.out) 1
      have p2 := CB.frozen (show CB 56 w7 gR (In.enc ⟨ByteArray.empty, 0, 0, 0, 0⟩) from hY7.out) 2
      have p3 := CB.frozen (show CB 56 w7 gR (In.enc ⟨ByteArray.empty, 0, 0, 0, 0⟩) from hY7.out) 3
      have p4 := CB.frozen (show CB 56 w7 gR (In.enc ⟨ByteArray.empty, 0, 0, 0, 0⟩) from hY7.out) 4
      obtain ⟨y0, y1, y2, y3, y4⟩ := XB.cells hY7.out
      simp only at y0 y1 y2 y3 y4
      have hne : ¬ gR = gB := by have := hBR.out; omega
      have hne2 : ¬ gB = gR := by have := hBR.out; omega
      go_wp2
      refine bodyPost_ret (v := .agg #[.string s, .int .i64 (d), .int .i64 (0), .int .i64 ((xb)), .int .i64 (0)]) ?_ rfl ⟨⟨s, d, 0, (xb), 0⟩, rfl, hsz.out, ?_, ?_⟩
      · obtain ⟨z0, z1, z2, z3, z4⟩ := (XB.five' ⟨s, d, 0, (xb), 0⟩ hY7.out).cells
        generalize (World.setCell _ ⟨gR, 4, none⟩ _) = W at z0 z1 z2 z3 z4 ⊢
        simp only at z0 z1 z2 z3 z4
        simp [results, Try.results234, go_sem, z0, z1, z2, z3, z4]
      · have hcu := hC7.out.more (show K + 6 ≤ K + 14 by omega)
        exact ((((hcu.far (p := ⟨gR, 0, none⟩) hgg.out _).far (p := ⟨gR, 1, none⟩) hgg.out _).far (p := ⟨gR, 2, none⟩) hgg.out _).far (p := ⟨gR, 3, none⟩) hgg.out _).far (p := ⟨gR, 4, none⟩) hgg.out _
      · exact ((((hH7.out.newD (p := ⟨gR, 0, none⟩) hRw.out _).newD (p := ⟨gR, 1, none⟩) hRw.out _).newD (p := ⟨gR, 2, none⟩) hRw.out _).newD (p := ⟨gR, 3, none⟩) hRw.out _).newD (p := ⟨gR, 4, none⟩) hRw.out _
  · go_wp2_with (fail)
    generalize w3.alloc (.cells #[.string s, .int .i64 d, .int .i64 0, .int .i64 0, .int .i64 0] 56) = W4 at *
    try rw [eB]
    clear eB
    with_reducible refine (HP.out (K + 4) regs W4 (by omega) (by omega) hC4.out).mono ?_
    rintro e w5 ⟨xa, rfl, _, hcu, hch⟩
    have hX5 := Lib.hid (CB.chgD (show CB 56 W4 gB (In.enc ⟨s, d, 0, 0, 0⟩) from hX4.out) hch (.inr (by have := hgg.out; have := hBR.out; omega)))
    have hY5 := Lib.hid (CB.chgD (show CB 56 W4 gR (In.enc ⟨ByteArray.empty, 0, 0, 0, 0⟩) from hY4.out) hch (.inr (by have := hgg.out; omega)))
    have hC5 := Lib.hid hcu
    have hH5 := Lib.hid (hH4.out.trans hch)
    clear hcu hch hX4 hY4 hC4 hH4
    have f6 := CB.frozen (show CB 56 w5 gB (In.enc ⟨s, d, 0, 0, 0⟩) from hX5.out) 2
    have o6 := (CB.cell (show CB 56 w5 gB (In.enc ⟨s, d, 0, 0, 0⟩) from hX5.out) 2).trans (rfl : _ = some (Value.int .i64 (0)))
    have hX6 : Hid (XB (w5.setCell ⟨gB, 2, none⟩ (.int .i64 (xa))) gB ⟨s, d, (xa), 0, 0⟩) := CB.set (show CB 56 w5 gB (In.enc ⟨s, d, 0, 0, 0⟩) from hX5.out) 2 (.int .i64 (xa))
    have hY6 : Hid (XB (w5.setCell ⟨gB, 2, none⟩ (.int .i64 (xa))) gR ⟨ByteArray.empty, 0, 0, 0, 0⟩) := CB.farD (show CB 56 w5 gR (In.enc ⟨ByteArray.empty, 0, 0, 0, 0⟩) from hY5.out) (p := ⟨gB, 2, none⟩) (by show gB ≠ gR; have := hBR.out; omega) _
    have hC6 : Hid (Cur (w5.setCell ⟨gB, 2, none⟩ (.int .i64 (xa))) g (K + 6)) := hC5.out.far (p := ⟨gB, 2, none⟩) (by show g < gB; have := hgg.out; have := hBR.out; omega) _
    have hH6 : Hid (Chg g (g + 1) w (w5.setCell ⟨gB, 2, none⟩ (.int .i64 (xa)))) := hH5.out.newD (p := ⟨gB, 2, none⟩) (by show w.heap.size ≤ gB; have := hRw.out; have := hBR.out; omega) _
    clear hX5 hY5 hC5 hH5
    go_wp2_with (fail)
    with_reducible refine (HI.out (w5.setCell ⟨gB, 2, none⟩ (.int .i64 (xa)))).mono ?_
    rintro e w7 ⟨rfl, hbe⟩
    have hX7 := Lib.hid (CB.below (show CB 56 (w5.setCell ⟨gB, 2, none⟩ (.int .i64 (xa))) gB (In.enc ⟨s, d, (xa), 0, 0⟩) from hX6.out) hbe (CB.lt hX6.out))
    have hY7 := Lib.hid (CB.below (show CB 56 (w5.setCell ⟨gB, 2, none⟩ (.int .i64 (xa))) gR (In.enc ⟨ByteArray.empty, 0, 0, 0, 0⟩) from hY6.out) hbe (CB.lt hY6.out))
    have hC7 := Lib.hid (hC6.out.below hbe)
    have hH7 := Lib.hid (hH6.out.trans (Chg.ofBelow hbe))
    clear hbe hX6 hY6 hC6 hH6
    by_cases hm : 0 < hi
    · have hm2 : decide (0 < hi) = true := decide_eq_true hm
      by_cases h63 : hi = 63
      · subst h63
        rw [hm2]
        have hs1 : IntKind.i64.wrap (63 - lo) = 63 - lo := IntWalk.i64_in _ (by omega)
        have hs2 : IntKind.i64.wrap (63 - lo + 1) = 63 - lo + 1 := IntWalk.i64_in _ (by omega)
        go_wp2_with (fail)
        with_reducible refine (HP.out (K + 6) (63 - lo + 1) w7 (by omega) (by omega) hC7.out).mono ?_
        rintro e w8 ⟨xm, rfl, hxm, hcu, hch⟩
        have hX8 := Lib.hid (CB.chgD (show CB 56 w7 gB (In.enc ⟨s, d, (xa), 0, 0⟩) from hX7.out) hch (.inr (by have := hgg.out; have := hBR.out; omega)))
        have hY8 := Lib.hid (CB.chgD (show CB 56 w7 gR (In.enc ⟨ByteArray.empty, 0, 0, 0, 0⟩) from hY7.out) hch (.inr (by have := hgg.out; omega)))
        have hC8 := Lib.hid hcu
        have hH8 := Lib.hid (hH7.out.trans hch)
        clear hcu hch hX7 hY7 hC7 hH7
        have hs3 : IntKind.i64.wrap (lo + xm) = lo + xm := IntWalk.i64_in _ (by omega)
        have f9 := CB.frozen (show CB 56 w8 gB (In.enc ⟨s, d, (xa), 0, 0⟩) from hX8.out) 4
        have o9 := (CB.cell (show CB 56 w8 gB (In.enc ⟨s, d, (xa), 0, 0⟩) from hX8.out) 4).trans (rfl : _ = some (Value.int .i64 (0)))
        have hX9 : Hid (XB (w8.setCell ⟨gB, 4, none⟩ (.int .i64 (lo + xm))) gB ⟨s, d, (xa), 0, (lo + xm)⟩) := CB.set (show CB 56 w8 gB (In.enc ⟨s, d, (xa), 0, 0⟩) from hX8.out) 4 (.int .i64 (lo + xm))
        have hY9 : Hid (XB (w8.setCell ⟨gB, 4, none⟩ (.int .i64 (lo + xm))) gR ⟨ByteArray.empty, 0, 0, 0, 0⟩) := CB.farD (show CB 56 w8 gR (In.enc ⟨ByteArray.empty, 0, 0, 0, 0⟩) from hY8.out) (p := ⟨gB, 4, none⟩) (by show gB ≠ gR; have := hBR.out; omega) _
        have hC9 : Hid (Cur (w8.setCell ⟨gB, 4, none⟩ (.int .i64 (lo + xm))) g (K + 8)) := hC8.out.far (p := ⟨gB, 4, none⟩) (by show g < gB; have := hgg.out; have := hBR.out; omega) _
        have hH9 : Hid (Chg g (g + 1) w (w8.setCell ⟨gB, 4, none⟩ (.int .i64 (lo + xm)))) := hH8.out.newD (p := ⟨gB, 4, none⟩) (by show w.heap.size ≤ gB; have := hRw.out; have := hBR.out; omega) _
        clear hX8 hY8 hC8 hH8
        go_wp2_with (fail)
        with_reducible refine (HW.out (K + 8) (w8.setCell ⟨gB, 4, none⟩ (.int .i64 (lo + xm))) (by omega) hC9.out).mono ?_
        rintro e w10 ⟨xw, rfl, _, hcu, hch⟩
        have hX10 := Lib.hid (CB.chgD (show CB 56 (w8.setCell ⟨gB, 4, none⟩ (.int .i64 (lo + xm))) gB (In.enc ⟨s, d, (xa), 0, (lo + xm)⟩) from hX9.out) hch (.inr (by have := hgg.out; have := hBR.out; omega)))
        have hY10 := Lib.hid (CB.chgD (show CB 56 (w8.setCell ⟨gB, 4, none⟩ (.int .i64 (lo + xm))) gR (In.enc ⟨ByteArray.empty, 0, 0, 0, 0⟩) from hY9.out) hch (.inr (by have := hgg.out; omega)))
        have hC10 := Lib.hid hcu
        have hH10 := Lib.hid (hH9.out.trans hch)
        clear hcu hch hX9 hY9 hC9 hH9
        have f11 := CB.frozen (show CB 56 w10 gB (In.enc ⟨s, d, (xa), 0, (lo + xm)⟩) from hX10.out) 4
        have o11 := (CB.cell (show CB 56 w10 gB (In.enc ⟨s, d, (xa), 0, (lo + xm)⟩) from hX10.out) 4).trans (rfl : _ = some (Value.int .i64 ((lo + xm))))
        have hX11 : Hid (XB (w10.setCell ⟨gB, 4, none⟩ (.int .i64 (xw))) gB ⟨s, d, (xa), 0, (xw)⟩) := CB.set (show CB 56 w10 gB (In.enc ⟨s, d, (xa), 0, (lo + xm)⟩) from hX10.out) 4 (.int .i64 (xw))
        have hY11 : Hid (XB (w10.setCell ⟨gB, 4, none⟩ (.int .i64 (xw))) gR ⟨ByteArray.empty, 0, 0, 0, 0⟩) := CB.farD (show CB 56 w10 gR (In.enc ⟨ByteArray.empty, 0, 0, 0, 0⟩) from hY10.out) (p := ⟨gB, 4, none⟩) (by show gB ≠ gR; have := hBR.out; omega) _
        have hC11 : Hid (Cur (w10.setCell ⟨gB, 4, none⟩ (.int .i64 (xw))) g (K + 12)) := hC10.out.far (p := ⟨gB, 4, none⟩) (by show g < gB; have := hgg.out; have := hBR.out; omega) _
        have hH11 : Hid (Chg g (g + 1) w (w10.setCell ⟨gB, 4, none⟩ (.int .i64 (xw)))) := hH10.out.newD (p := ⟨gB, 4, none⟩) (by show w.heap.size ≤ gB; have := hRw.out; have := hBR.out; omega) _
        clear hX10 hY10 hC10 hH10
        obtain ⟨x0, x1, x2, x3, x4⟩ := XB.cells hX11.out
        simp only at x0 x1 x2 x3 x4
        have p0 := CB.frozen (show CB 56 (w10.setCell ⟨gB, 4, none⟩ (.int .i64 (xw))) gR (In.enc ⟨ByteArray.empty, 0, 0, 0, 0⟩) from hY11.out) 0
        have p1 := CB.frozen (show CB 56 (w10.setCell ⟨gB, 4, none⟩ (.int .i64 (xw))) gR (In.enc ⟨ByteArray.empty, 0, 0, 0, 0⟩) from hY11.out) 1
        have p2 := CB.frozen (show CB 56 (w10.setCell ⟨gB, 4, none⟩ (.int .i64 (xw))) gR (In.enc ⟨ByteArray.empty, 0, 0, 0, 0⟩) from hY11.out) 2
        have p3 := CB.frozen (show CB 56 (w10.setCell ⟨gB, 4, none⟩ (.int .i64 (xw))) gR (In.enc ⟨ByteArray.empty, 0, 0, 0, 0⟩) from hY11.out) 3
        have p4 := CB.frozen (show CB 56 (w10.setCell ⟨gB, 4, none⟩ (.int .i64 (xw))) gR (In.enc ⟨ByteArray.empty, 0, 0, 0, 0⟩) from hY11.out) 4
        obtain ⟨y0, y1, y2, y3, y4⟩ := XB.cells hY11.out
        simp only at y0 y1 y2 y3 y4
        have hne : ¬ gR = gB := by have := hBR.out; omega
        have hne2 : ¬ gB = gR := by have := hBR.out; omega
        go_wp2
        refine bodyPost_ret (v := .agg #[.string s, .int .i64 (d), .int .i64 ((xa)), .int .i64 (0), .int .i64 ((xw))]) ?_ rfl ⟨⟨s, d, (xa), 0, (xw)⟩, rfl, hsz.out, ?_, ?_⟩
        · obtain ⟨z0, z1, z2, z3, z4⟩ := (XB.five' ⟨s, d, (xa), 0, (xw)⟩ hY11.out).cells
          generalize (World.setCell _ ⟨gR, 4, none⟩ _) = W at z0 z1 z2 z3 z4 ⊢
          simp only at z0 z1 z2 z3 z4
          simp [results, Try.results234, go_sem, z0, z1, z2, z3, z4]
        · have hcu := hC11.out.more (show K + 12 ≤ K + 14 by omega)
          exact ((((hcu.far (p := ⟨gR, 0, none⟩) hgg.out _).far (p := ⟨gR, 1, none⟩) hgg.out _).far (p := ⟨gR, 2, none⟩) hgg.out _).far (p := ⟨gR, 3, none⟩) hgg.out _).far (p := ⟨gR, 4, none⟩) hgg.out _
        · exact ((((hH11.out.newD (p := ⟨gR, 0, none⟩) hRw.out _).newD (p := ⟨gR, 1, none⟩) hRw.out _).newD (p := ⟨gR, 2, none⟩) hRw.out _).newD (p := ⟨gR, 3, none⟩) hRw.out _).newD (p := ⟨gR, 4, none⟩) hRw.out _
      · have h63' := Lib.hid h63
        clear h63
        rw [hm2]
        have hs1 : IntKind.i64.wrap (hi - lo) = hi - lo := IntWalk.i64_in _ (by omega)
        have hs2 : IntKind.i64.wrap (hi - lo + 1) = hi - lo + 1 := IntWalk.i64_in _ (by omega)
        have hs0 : (hi == 63) = false := by have := h63'.out; simpa using this
        go_wp2_with (fail)
        with_reducible refine (HP.out (K + 6) (hi - lo + 1) w7 (by omega) (by omega) hC7.out).mono ?_
        rintro e w8 ⟨xm, rfl, hxm, hcu, hch⟩
        have hX8 := Lib.hid (CB.chgD (show CB 56 w7 gB (In.enc ⟨s, d, (xa), 0, 0⟩) from hX7.out) hch (.inr (by have := hgg.out; have := hBR.out; omega)))
        have hY8 := Lib.hid (CB.chgD (show CB 56 w7 gR (In.enc ⟨ByteArray.empty, 0, 0, 0, 0⟩) from hY7.out) hch (.inr (by have := hgg.out; omega)))
        have hC8 := Lib.hid hcu
        have hH8 := Lib.hid (hH7.out.trans hch)
        clear hcu hch hX7 hY7 hC7 hH7
        have hs3 : IntKind.i64.wrap (lo + xm) = lo + xm := IntWalk.i64_in _ (by omega)
        have f9 := CB.frozen (show CB 56 w8 gB (In.enc ⟨s, d, (xa), 0, 0⟩) from hX8.out) 4
        have o9 := (CB.cell (show CB 56 w8 gB (In.enc ⟨s, d, (xa), 0, 0⟩) from hX8.out) 4).trans (rfl : _ = some (Value.int .i64 (0)))
        have hX9 : Hid (XB (w8.setCell ⟨gB, 4, none⟩ (.int .i64 (lo + xm))) gB ⟨s, d, (xa), 0, (lo + xm)⟩) := CB.set (show CB 56 w8 gB (In.enc ⟨s, d, (xa), 0, 0⟩) from hX8.out) 4 (.int .i64 (lo + xm))
        have hY9 : Hid (XB (w8.setCell ⟨gB, 4, none⟩ (.int .i64 (lo + xm))) gR ⟨ByteArray.empty, 0, 0, 0, 0⟩) := CB.farD (show CB 56 w8 gR (In.enc ⟨ByteArray.empty, 0, 0, 0, 0⟩) from hY8.out) (p := ⟨gB, 4, none⟩) (by show gB ≠ gR; have := hBR.out; omega) _
        have hC9 : Hid (Cur (w8.setCell ⟨gB, 4, none⟩ (.int .i64 (lo + xm))) g (K + 8)) := hC8.out.far (p := ⟨gB, 4, none⟩) (by show g < gB; have := hgg.out; have := hBR.out; omega) _
        have hH9 : Hid (Chg g (g + 1) w (w8.setCell ⟨gB, 4, none⟩ (.int .i64 (lo + xm)))) := hH8.out.newD (p := ⟨gB, 4, none⟩) (by show w.heap.size ≤ gB; have := hRw.out; have := hBR.out; omega) _
        clear hX8 hY8 hC8 hH8
        obtain ⟨x0, x1, x2, x3, x4⟩ := XB.cells hX9.out
        simp only at x0 x1 x2 x3 x4
        have p0 := CB.frozen (show CB 56 (w8.setCell ⟨gB, 4, none⟩ (.int .i64 (lo + xm))) gR (In.enc ⟨ByteArray.empty, 0, 0, 0, 0⟩) from hY9.out) 0
        have p1 := CB.frozen (show CB 56 (w8.setCell ⟨gB, 4, none⟩ (.int .i64 (lo + xm))) gR (In.enc ⟨ByteArray.empty, 0, 0, 0, 0⟩) from hY9.out) 1
        have p2 := CB.frozen (show CB 56 (w8.setCell ⟨gB, 4, none⟩ (.int .i64 (lo + xm))) gR (In.enc ⟨ByteArray.empty, 0, 0, 0, 0⟩) from hY9.out) 2
        have p3 := CB.frozen (show CB 56 (w8.setCell ⟨gB, 4, none⟩ (.int .i64 (lo + xm))) gR (In.enc ⟨ByteArray.empty, 0, 0, 0, 0⟩) from hY9.out) 3
        have p4 := CB.frozen (show CB 56 (w8.setCell ⟨gB, 4, none⟩ (.int .i64 (lo + xm))) gR (In.enc ⟨ByteArray.empty, 0, 0, 0, 0⟩) from hY9.out) 4
        obtain ⟨y0, y1, y2, y3, y4⟩ := XB.cells hY9.out
        simp only at y0 y1 y2 y3 y4
        have hne : ¬ gR = gB := by have := hBR.out; omega
        have hne2 : ¬ gB = gR := by have := hBR.out; omega
        go_wp2
        refine bodyPost_ret (v := .agg #[.string s, .int .i64 (d), .int .i64 ((xa)), .int .i64 (0), .int .i64 ((lo + xm))]) ?_ rfl ⟨⟨s, d, (xa), 0, (lo + xm)⟩, rfl, hsz.out, ?_, ?_⟩
        · obtain ⟨z0, z1, z2, z3, z4⟩ := (XB.five' ⟨s, d, (xa), 0, (lo + xm)⟩ hY9.out).cells
          generalize (World.setCell _ ⟨gR, 4, none⟩ _) = W at z0 z1 z2 z3 z4 ⊢
          simp only at z0 z1 z2 z3 z4
          simp [results, Try.results234, go_sem, z0, z1, z2, z3, z4]
        · have hcu := hC9.out.more (show K + 8 ≤ K + 14 by omega)
          exact ((((hcu.far (p := ⟨gR, 0, none⟩) hgg.out _).far (p := ⟨gR, 1, none⟩) hgg.out _).far (p := ⟨gR, 2, none⟩) hgg.out _).far (p := ⟨gR, 3, none⟩) hgg.out _).far (p := ⟨gR, 4, none⟩) hgg.out _
        · exact ((((hH9.out.newD (p := ⟨gR, 0, none⟩) hRw.out _).newD (p := ⟨gR, 1, none⟩) hRw.out _).newD (p := ⟨gR, 2, none⟩) hRw.out _).newD (p := ⟨gR, 3, none⟩) hRw.out _).newD (p := ⟨gR, 4, none⟩) hRw.out _
    · have hm2 : decide (0 < hi) = false := decide_eq_false hm
      rw [hm2]
      obtain ⟨x0, x1, x2, x3, x4⟩ := XB.cells hX7.out
      simp only at x0 x1 x2 x3 x4
      have p0 := CB.frozen (show CB 56 w7 gR (In.enc ⟨ByteArray.empty, 0, 0, 0, 0⟩) from hY7.out) 0
      have p1 := CB.frozen (show CB 56 w7 gR (In.enc ⟨ByteArray.empty, 0, 0, 0, 0⟩) from hY7.out) 1
      have p2 := CB.frozen (show CB 56 w7 gR (In.enc ⟨ByteArray.empty, 0, 0, 0, 0⟩) from hY7.out) 2
      have p3 := CB.frozen (show CB 56 w7 gR (In.enc ⟨ByteArray.empty, 0, 0, 0, 0⟩) from hY7.out) 3
      have p4 := CB.frozen (show CB 56 w7 gR (In.enc ⟨ByteArray.empty, 0, 0, 0, 0⟩) from hY7.out) 4
      obtain ⟨y0, y1, y2, y3, y4⟩ := XB.cells hY7.out
      simp only at y0 y1 y2 y3 y4
      have hne : ¬ gR = gB := by have := hBR.out; omega
      have hne2 : ¬ gB = gR := by have := hBR.out; omega
      go_wp2
      refine bodyPost_ret (v := .agg #[.string s, .int .i64 (d), .int .i64 ((xa)), .int .i64 (0), .int .i64 (0)]) ?_ rfl ⟨⟨s, d, (xa), 0, 0⟩, rfl, hsz.out, ?_, ?_⟩
      · obtain ⟨z0, z1, z2, z3, z4⟩ := (XB.five' ⟨s, d, (xa), 0, 0⟩ hY7.out).cells
        generalize (World.setCell _ ⟨gR, 4, none⟩ _) = W at z0 z1 z2 z3 z4 ⊢
        simp only at z0 z1 z2 z3 z4
        simp [results, Try.results234, go_sem, z0, z1, z2, z3, z4]
      · have hcu := hC7.out.more (show K + 6 ≤ K + 14 by omega)
        exact ((((hcu.far (p := ⟨gR, 0, none⟩) hgg.out _).far (p := ⟨gR, 1, none⟩) hgg.out _).far (p := ⟨gR, 2, none⟩) hgg.out _).far (p := ⟨gR, 3, none⟩) hgg.out _).far (p := ⟨gR, 4, none⟩) hgg.out _
      · exact ((((hH7.out.newD (p := ⟨gR, 0, none⟩) hRw.out _).newD (p := ⟨gR, 1, none⟩) hRw.out _).newD (p := ⟨gR, 2, none⟩) hRw.out _).newD (p := ⟨gR, 3, none⟩) hRw.out _).newD (p := ⟨gR, 4, none⟩) hRw.out _
  · go_wp2_with (fail)
    generalize w3.alloc (.cells #[.string s, .int .i64 d, .int .i64 0, .int .i64 0, .int .i64 0] 56) = W4 at *
    try rw [eB]
    clear eB
    with_reducible refine (HP.out (K + 4) regs W4 (by omega) (by omega) hC4.out).mono ?_
    rintro e w5 ⟨xa, rfl, _, hcu, hch⟩
    have hX5 := Lib.hid (CB.chgD (show CB 56 W4 gB (In.enc ⟨s, d, 0, 0, 0⟩) from hX4.out) hch (.inr (by have := hgg.out; have := hBR.out; omega)))
    have hY5 := Lib.hid (CB.chgD (show CB 56 W4 gR (In.enc ⟨ByteArray.empty, 0, 0, 0, 0⟩) from hY4.out) hch (.inr (by have := hgg.out; omega)))
    have hC5 := Lib.hid hcu
    have hH5 := Lib.hid (hH4.out.trans hch)
    clear hcu hch hX4 hY4 hC4 hH4
    have f6 := CB.frozen (show CB 56 w5 gB (In.enc ⟨s, d, 0, 0, 0⟩) from hX5.out) 2
    have o6 := (CB.cell (show CB 56 w5 gB (In.enc ⟨s, d, 0, 0, 0⟩) from hX5.out) 2).trans (rfl : _ = some (Value.int .i64 (0)))
    have hX6 : Hid (XB (w5.setCell ⟨gB, 2, none⟩ (.int .i64 (xa))) gB ⟨s, d, (xa), 0, 0⟩) := CB.set (show CB 56 w5 gB (In.enc ⟨s, d, 0, 0, 0⟩) from hX5.out) 2 (.int .i64 (xa))
    have hY6 : Hid (XB (w5.setCell ⟨gB, 2, none⟩ (.int .i64 (xa))) gR ⟨ByteArray.empty, 0, 0, 0, 0⟩) := CB.farD (show CB 56 w5 gR (In.enc ⟨ByteArray.empty, 0, 0, 0, 0⟩) from hY5.out) (p := ⟨gB, 2, none⟩) (by show gB ≠ gR; have := hBR.out; omega) _
    have hC6 : Hid (Cur (w5.setCell ⟨gB, 2, none⟩ (.int .i64 (xa))) g (K + 6)) := hC5.out.far (p := ⟨gB, 2, none⟩) (by show g < gB; have := hgg.out; have := hBR.out; omega) _
    have hH6 : Hid (Chg g (g + 1) w (w5.setCell ⟨gB, 2, none⟩ (.int .i64 (xa)))) := hH5.out.newD (p := ⟨gB, 2, none⟩) (by show w.heap.size ≤ gB; have := hRw.out; have := hBR.out; omega) _
    clear hX5 hY5 hC5 hH5
    go_wp2_with (fail)
    with_reducible refine (HP.out (K + 6) regs (w5.setCell ⟨gB, 2, none⟩ (.int .i64 (xa))) (by omega) (by omega) hC6.out).mono ?_
    rintro e w7 ⟨xb, rfl, _, hcu, hch⟩
    have hX7 := Lib.hid (CB.chgD (show CB 56 (w5.setCell ⟨gB, 2, none⟩ (.int .i64 (xa))) gB (In.enc ⟨s, d, (xa), 0, 0⟩) from hX6.out) hch (.inr (by have := hgg.out; have := hBR.out; omega)))
    have hY7 := Lib.hid (CB.chgD (show CB 56 (w5.setCell ⟨gB, 2, none⟩ (.int .i64 (xa))) gR (In.enc ⟨ByteArray.empty, 0, 0, 0, 0⟩) from hY6.out) hch (.inr (by have := hgg.out; omega)))
    have hC7 := Lib.hid hcu
    have hH7 := Lib.hid (hH6.out.trans hch)
    clear hcu hch hX6 hY6 hC6 hH6
    have f8 := CB.frozen (show CB 56 w7 gB (In.enc ⟨s, d, (xa), 0, 0⟩) from hX7.out) 3
    have o8 := (CB.cell (show CB 56 w7 gB (In.enc ⟨s, d, (xa), 0, 0⟩) from hX7.out) 3).trans (rfl : _ = some (Value.int .i64 (0)))
    have hX8 : Hid (XB (w7.setCell ⟨gB, 3, none⟩ (.int .i64 (xb))) gB ⟨s, d, (xa), (xb), 0⟩) := CB.set (show CB 56 w7 gB (In.enc ⟨s, d, (xa), 0, 0⟩) from hX7.out) 3 (.int .i64 (xb))
    have hY8 : Hid (XB (w7.setCell ⟨gB, 3, none⟩ (.int .i64 (xb))) gR ⟨ByteArray.empty, 0, 0, 0, 0⟩) := CB.farD (show CB 56 w7 gR (In.enc ⟨ByteArray.empty, 0, 0, 0, 0⟩) from hY7.out) (p := ⟨gB, 3, none⟩) (by show gB ≠ gR; have := hBR.out; omega) _
    have hC8 : Hid (Cur (w7.setCell ⟨gB, 3, none⟩ (.int .i64 (xb))) g (K + 8)) := hC7.out.far (p := ⟨gB, 3, none⟩) (by show g < gB; have := hgg.out; have := hBR.out; omega) _
    have hH8 : Hid (Chg g (g + 1) w (w7.setCell ⟨gB, 3, none⟩ (.int .i64 (xb)))) := hH7.out.newD (p := ⟨gB, 3, none⟩) (by show w.heap.size ≤ gB; have := hRw.out; have := hBR.out; omega) _
    clear hX7 hY7 hC7 hH7
    go_wp2_with (fail)
    with_reducible refine (HI.out (w7.setCell ⟨gB, 3, none⟩ (.int .i64 (xb)))).mono ?_
    rintro e w9 ⟨rfl, hbe⟩
    have hX9 := Lib.hid (CB.below (show CB 56 (w7.setCell ⟨gB, 3, none⟩ (.int .i64 (xb))) gB (In.enc ⟨s, d, (xa), (xb), 0⟩) from hX8.out) hbe (CB.lt hX8.out))
    have hY9 := Lib.hid (CB.below (show CB 56 (w7.setCell ⟨gB, 3, none⟩ (.int .i64 (xb))) gR (In.enc ⟨ByteArray.empty, 0, 0, 0, 0⟩) from hY8.out) hbe (CB.lt hY8.out))
    have hC9 := Lib.hid (hC8.out.below hbe)
    have hH9 := Lib.hid (hH8.out.trans (Chg.ofBelow hbe))
    clear hbe hX8 hY8 hC8 hH8
    by_cases hm : 0 < hi
    · have hm2 : decide (0 < hi) = true := decide_eq_true hm
      by_cases h63 : hi = 63
      · subst h63
        rw [hm2]
        have hs1 : IntKind.i64.wrap (63 - lo) = 63 - lo := IntWalk.i64_in _ (by omega)
        have hs2 : IntKind.i64.wrap (63 - lo + 1) = 63 - lo + 1 := IntWalk.i64_in _ (by omega)
        go_wp2_with (fail)
        with_reducible refine (HP.out (K + 8) (63 - lo + 1) w9 (by omega) (by omega) hC9.out).mono ?_
        rintro e w10 ⟨xm, rfl, hxm, hcu, hch⟩
        have hX10 := Lib.hid (CB.chgD (show CB 56 w9 gB (In.enc ⟨s, d, (xa), (xb), 0⟩) from hX9.out) hch (.inr (by have := hgg.out; have := hBR.out; omega)))
        have hY10 := Lib.hid (CB.chgD (show CB 56 w9 gR (In.enc ⟨ByteArray.empty, 0, 0, 0, 0⟩) from hY9.out) hch (.inr (by have := hgg.out; omega)))
        have hC10 := Lib.hid hcu
        have hH10 := Lib.hid (hH9.out.trans hch)
        clear hcu hch hX9 hY9 hC9 hH9
        have hs3 : IntKind.i64.wrap (lo + xm) = lo + xm := IntWalk.i64_in _ (by omega)
        have f11 := CB.frozen (show CB 56 w10 gB (In.enc ⟨s, d, (xa), (xb), 0⟩) from hX10.out) 4
        have o11 := (CB.cell (show CB 56 w10 gB (In.enc ⟨s, d, (xa), (xb), 0⟩) from hX10.out) 4).trans (rfl : _ = some (Value.int .i64 (0)))
        have hX11 : Hid (XB (w10.setCell ⟨gB, 4, none⟩ (.int .i64 (lo + xm))) gB ⟨s, d, (xa), (xb), (lo + xm)⟩) := CB.set (show CB 56 w10 gB (In.enc ⟨s, d, (xa), (xb), 0⟩) from hX10.out) 4 (.int .i64 (lo + xm))
        have hY11 : Hid (XB (w10.setCell ⟨gB, 4, none⟩ (.int .i64 (lo + xm))) gR ⟨ByteArray.empty, 0, 0, 0, 0⟩) := CB.farD (show CB 56 w10 gR (In.enc ⟨ByteArray.empty, 0, 0, 0, 0⟩) from hY10.out) (p := ⟨gB, 4, none⟩) (by show gB ≠ gR; have := hBR.out; omega) _
        have hC11 : Hid (Cur (w10.setCell ⟨gB, 4, none⟩ (.int .i64 (lo + xm))) g (K + 10)) := hC10.out.far (p := ⟨gB, 4, none⟩) (by show g < gB; have := hgg.out; have := hBR.out; omega) _
        have hH11 : Hid (Chg g (g + 1) w (w10.setCell ⟨gB, 4, none⟩ (.int .i64 (lo + xm)))) := hH10.out.newD (p := ⟨gB, 4, none⟩) (by show w.heap.size ≤ gB; have := hRw.out; have := hBR.out; omega) _
        clear hX10 hY10 hC10 hH10
        go_wp2_with (fail)
        with_reducible refine (HW.out (K + 10) (w10.setCell ⟨gB, 4, none⟩ (.int .i64 (lo + xm))) (by omega) hC11.out).mono ?_
        rintro e w12 ⟨xw, rfl, _, hcu, hch⟩
        have hX12 := Lib.hid (CB.chgD (show CB 56 (w10.setCell ⟨gB, 4, none⟩ (.int .i64 (lo + xm))) gB (In.enc ⟨s, d, (xa), (xb), (lo + xm)⟩) from hX11.out) hch (.inr (by have := hgg.out; have := hBR.out; omega)))
        have hY12 := Lib.hid (CB.chgD (show CB 56 (w10.setCell ⟨gB, 4, none⟩ (.int .i64 (lo + xm))) gR (In.enc ⟨ByteArray.empty, 0, 0, 0, 0⟩) from hY11.out) hch (.inr (by have := hgg.out; omega)))
        have hC12 := Lib.hid hcu
        have hH12 := Lib.hid (hH11.out.trans hch)
        clear hcu hch hX11 hY11 hC11 hH11
        have f13 := CB.frozen (show CB 56 w12 gB (In.enc ⟨s, d, (xa), (xb), (lo + xm)⟩) from hX12.out) 4
        have o13 := (CB.cell (show CB 56 w12 gB (In.enc ⟨s, d, (xa), (xb), (lo + xm)⟩) from hX12.out) 4).trans (rfl : _ = some (Value.int .i64 ((lo + xm))))
        have hX13 : Hid (XB (w12.setCell ⟨gB, 4, none⟩ (.int .i64 (xw))) gB ⟨s, d, (xa), (xb), (xw)⟩) := CB.set (show CB 56 w12 gB (In.enc ⟨s, d, (xa), (xb), (lo + xm)⟩) from hX12.out) 4 (.int .i64 (xw))
        have hY13 : Hid (XB (w12.setCell ⟨gB, 4, none⟩ (.int .i64 (xw))) gR ⟨ByteArray.empty, 0, 0, 0, 0⟩) := CB.farD (show CB 56 w12 gR (In.enc ⟨ByteArray.empty, 0, 0, 0, 0⟩) from hY12.out) (p := ⟨gB, 4, none⟩) (by show gB ≠ gR; have := hBR.out; omega) _
        have hC13 : Hid (Cur (w12.setCell ⟨gB, 4, none⟩ (.int .i64 (xw))) g (K + 14)) := hC12.out.far (p := ⟨gB, 4, none⟩) (by show g < gB; have := hgg.out; have := hBR.out; omega) _
        have hH13 : Hid (Chg g (g + 1) w (w12.setCell ⟨gB, 4, none⟩ (.int .i64 (xw)))) := hH12.out.newD (p := ⟨gB, 4, none⟩) (by show w.heap.size ≤ gB; have := hRw.out; have := hBR.out; omega) _
        clear hX12 hY12 hC12 hH12
        obtain ⟨x0, x1, x2, x3, x4⟩ := XB.cells hX13.out
        simp only at x0 x1 x2 x3 x4
        have p0 := CB.frozen (show CB 56 (w12.setCell ⟨gB, 4, none⟩ (.int .i64 (xw))) gR (In.enc ⟨ByteArray.empty, 0, 0, 0, 0⟩) from hY13.out) 0
        have p1 := CB.frozen (show CB 56 (w12.setCell ⟨gB, 4, none⟩ (.int .i64 (xw))) gR (In.enc ⟨ByteArray.empty, 0, 0, 0, 0⟩) from hY13.out) 1
        have p2 := CB.frozen (show CB 56 (w12.setCell ⟨gB, 4, none⟩ (.int .i64 (xw))) gR (In.enc ⟨ByteArray.empty, 0, 0, 0, 0⟩) from hY13.out) 2
        have p3 := CB.frozen (show CB 56 (w12.setCell ⟨gB, 4, none⟩ (.int .i64 (xw))) gR (In.enc ⟨ByteArray.empty, 0, 0, 0, 0⟩) from hY13.out) 3
        have p4 := CB.frozen (show CB 56 (w12.setCell ⟨gB, 4, none⟩ (.int .i64 (xw))) gR (In.enc ⟨ByteArray.empty, 0, 0, 0, 0⟩) from hY13.out) 4
        obtain ⟨y0, y1, y2, y3, y4⟩ := XB.cells hY13.out
        simp only at y0 y1 y2 y3 y4
        have hne : ¬ gR = gB := by have := hBR.out; omega
        have hne2 : ¬ gB = gR := by have := hBR.out; omega
        go_wp2
        refine bodyPost_ret (v := .agg #[.string s, .int .i64 (d), .int .i64 ((xa)), .int .i64 ((xb)), .int .i64 ((xw))]) ?_ rfl ⟨⟨s, d, (xa), (xb), (xw)⟩, rfl, hsz.out, ?_, ?_⟩
        · obtain ⟨z0, z1, z2, z3, z4⟩ := (XB.five' ⟨s, d, (xa), (xb), (xw)⟩ hY13.out).cells
          generalize (World.setCell _ ⟨gR, 4, none⟩ _) = W at z0 z1 z2 z3 z4 ⊢
          simp only at z0 z1 z2 z3 z4
          simp [results, Try.results234, go_sem, z0, z1, z2, z3, z4]
        · have hcu := hC13.out.more (show K + 14 ≤ K + 14 by omega)
          exact ((((hcu.far (p := ⟨gR, 0, none⟩) hgg.out _).far (p := ⟨gR, 1, none⟩) hgg.out _).far (p := ⟨gR, 2, none⟩) hgg.out _).far (p := ⟨gR, 3, none⟩) hgg.out _).far (p := ⟨gR, 4, none⟩) hgg.out _
        · exact ((((hH13.out.newD (p := ⟨gR, 0, none⟩) hRw.out _).newD (p := ⟨gR, 1, none⟩) hRw.out _).newD (p := ⟨gR, 2, none⟩) hRw.out _).newD (p := ⟨gR, 3, none⟩) hRw.out _).newD (p := ⟨gR, 4, none⟩) hRw.out _
      · have h63' := Lib.hid h63
        clear h63
        rw [hm2]
        have hs1 : IntKind.i64.wrap (hi - lo) = hi - lo := IntWalk.i64_in _ (by omega)
        have hs2 : IntKind.i64.wrap (hi - lo + 1) = hi - lo + 1 := IntWalk.i64_in _ (by omega)
        have hs0 : (hi == 63) = false := by have := h63'.out; simpa using this
        go_wp2_with (fail)
        with_reducible refine (HP.out (K + 8) (hi - lo + 1) w9 (by omega) (by omega) hC9.out).mono ?_
        rintro e w10 ⟨xm, rfl, hxm, hcu, hch⟩
        have hX10 := Lib.hid (CB.chgD (show CB 56 w9 gB (In.enc ⟨s, d, (xa), (xb), 0⟩) from hX9.out) hch (.inr (by have := hgg.out; have := hBR.out; omega)))
        have hY10 := Lib.hid (CB.chgD (show CB 56 w9 gR (In.enc ⟨ByteArray.empty, 0, 0, 0, 0⟩) from hY9.out) hch (.inr (by have := hgg.out; omega)))
        have hC10 := Lib.hid hcu
        have hH10 := Lib.hid (hH9.out.trans hch)
        clear hcu hch hX9 hY9 hC9 hH9
        have hs3 : IntKind.i64.wrap (lo + xm) = lo + xm := IntWalk.i64_in _ (by omega)
        have f11 := CB.frozen (show CB 56 w10 gB (In.enc ⟨s, d, (xa), (xb), 0⟩) from hX10.out) 4
        have o11 := (CB.cell (show CB 56 w10 gB (In.enc ⟨s, d, (xa), (xb), 0⟩) from hX10.out) 4).trans (rfl : _ = some (Value.int .i64 (0)))
        have hX11 : Hid (XB (w10.setCell ⟨gB, 4, none⟩ (.int .i64 (lo + xm))) gB ⟨s, d, (xa), (xb), (lo + xm)⟩) := CB.set (show CB 56 w10 gB (In.enc ⟨s, d, (xa), (xb), 0⟩) from hX10.out) 4 (.int .i64 (lo + xm))
        have hY11 : Hid (XB (w10.setCell ⟨gB, 4, none⟩ (.int .i64 (lo + xm))) gR ⟨ByteArray.empty, 0, 0, 0, 0⟩) := CB.farD (show CB 56 w10 gR (In.enc ⟨ByteArray.empty, 0, 0, 0, 0⟩) from hY10.out) (p := ⟨gB, 4, none⟩) (by show gB ≠ gR; have := hBR.out; omega) _
        have hC11 : Hid (Cur (w10.setCell ⟨gB, 4, none⟩ (.int .i64 (lo + xm))) g (K + 10)) := hC10.out.far (p := ⟨gB, 4, none⟩) (by show g < gB; have := hgg.out; have := hBR.out; omega) _
        have hH11 : Hid (Chg g (g + 1) w (w10.setCell ⟨gB, 4, none⟩ (.int .i64 (lo + xm)))) := hH10.out.newD (p := ⟨gB, 4, none⟩) (by show w.heap.size ≤ gB; have := hRw.out; have := hBR.out; omega) _
        clear hX10 hY10 hC10 hH10
        obtain ⟨x0, x1, x2, x3, x4⟩ := XB.cells hX11.out
        simp only at x0 x1 x2 x3 x4
        have p0 := CB.frozen (show CB 56 (w10.setCell ⟨gB, 4, none⟩ (.int .i64 (lo + xm))) gR (In.enc ⟨ByteArray.empty, 0, 0, 0, 0⟩) from hY11.out) 0
        have p1 := CB.frozen (show CB 56 (w10.setCell ⟨gB, 4, none⟩ (.int .i64 (lo + xm))) gR (In.enc ⟨ByteArray.empty, 0, 0, 0, 0⟩) from hY11.out) 1
        have p2 := CB.frozen (show CB 56 (w10.setCell ⟨gB, 4, none⟩ (.int .i64 (lo + xm))) gR (In.enc ⟨ByteArray.empty, 0, 0, 0, 0⟩) from hY11.out) 2
        have p3 := CB.frozen (show CB 56 (w10.setCell ⟨gB, 4, none⟩ (.int .i64 (lo + xm))) gR (In.enc ⟨ByteArray.empty, 0, 0, 0, 0⟩) from hY11.out) 3
        have p4 := CB.frozen (show CB 56 (w10.setCell ⟨gB, 4, none⟩ (.int .i64 (lo + xm))) gR (In.enc ⟨ByteArray.empty, 0, 0, 0, 0⟩) from hY11.out) 4
        obtain ⟨y0, y1, y2, y3, y4⟩ := XB.cells hY11.out
        simp only at y0 y1 y2 y3 y4
        have hne : ¬ gR = gB := by have := hBR.out; omega
        have hne2 : ¬ gB = gR := by have := hBR.out; omega
        go_wp2
        refine bodyPost_ret (v := .agg #[.string s, .int .i64 (d), .int .i64 ((xa)), .int .i64 ((xb)), .int .i64 ((lo + xm))]) ?_ rfl ⟨⟨s, d, (xa), (xb), (lo + xm)⟩, rfl, hsz.out, ?_, ?_⟩
        · obtain ⟨z0, z1, z2, z3, z4⟩ := (XB.five' ⟨s, d, (xa), (xb), (lo + xm)⟩ hY11.out).cells
          generalize (World.setCell _ ⟨gR, 4, none⟩ _) = W at z0 z1 z2 z3 z4 ⊢
          simp only at z0 z1 z2 z3 z4
          simp [results, Try.results234, go_sem, z0, z1, z2, z3, z4]
        · have hcu := hC11.out.more (show K + 10 ≤ K + 14 by omega)
          exact ((((hcu.far (p := ⟨gR, 0, none⟩) hgg.out _).far (p := ⟨gR, 1, none⟩) hgg.out _).far (p := ⟨gR, 2, none⟩) hgg.out _).far (p := ⟨gR, 3, none⟩) hgg.out _).far (p := ⟨gR, 4, none⟩) hgg.out _
        · exact ((((hH11.out.newD (p := ⟨gR, 0, none⟩) hRw.out _).newD (p := ⟨gR, 1, none⟩) hRw.out _).newD (p := ⟨gR, 2, none⟩) hRw.out _).newD (p := ⟨gR, 3, none⟩) hRw.out _).newD (p := ⟨gR, 4, none⟩) hRw.out _
    · have hm2 : decide (0 < hi) = false := decide_eq_false hm
      rw [hm2]
      obtain ⟨x0, x1, x2, x3, x4⟩ := XB.cells hX9.out
      simp only at x0 x1 x2 x3 x4
      have p0 := CB.frozen (show CB 56 w9 gR (In.enc ⟨ByteArray.empty, 0, 0, 0, 0⟩) from hY9.out) 0
      have p1 := CB.frozen (show CB 56 w9 gR (In.enc ⟨ByteArray.empty, 0, 0, 0, 0⟩) from hY9.out) 1
      have p2 := CB.frozen (show CB 56 w9 gR (In.enc ⟨ByteArray.empty, 0, 0, 0, 0⟩) from hY9.out) 2
      have p3 := CB.frozen (show CB 56 w9 gR (In.enc ⟨ByteArray.empty, 0, 0, 0, 0⟩) from hY9.out) 3
      have p4 := CB.frozen (show CB 56 w9 gR (In.enc ⟨ByteArray.empty, 0, 0, 0, 0⟩) from hY9.out) 4
      obtain ⟨y0, y1, y2, y3, y4⟩ := XB.cells hY9.out
      simp only at y0 y1 y2 y3 y4
      have hne : ¬ gR = gB := by have := hBR.out; omega
      have hne2 : ¬ gB = gR := by have := hBR.out; omega
      go_wp2
      refine bodyPost_ret (v := .agg #[.string s, .int .i64 (d), .int .i64 ((xa)), .int .i64 ((xb)), .int .i64 (0)]) ?_ rfl ⟨⟨s, d, (xa), (xb), 0⟩, rfl, hsz.out, ?_, ?_⟩
      · obtain ⟨z0, z1, z2, z3, z4⟩ := (XB.five' ⟨s, d, (xa), (xb), 0⟩ hY9.out).cells
        generalize (World.setCell _ ⟨gR, 4, none⟩ _) = W at z0 z1 z2 z3 z4 ⊢
        simp only at z0 z1 z2 z3 z4
        simp [results, Try.results234, go_sem, z0, z1, z2, z3, z4]
      · have hcu := hC9.out.more (show K + 8 ≤ K + 14 by omega)
        exact ((((hcu.far (p := ⟨gR, 0, none⟩) hgg.out _).far (p := ⟨gR, 1, none⟩) hgg.out _).far (p := ⟨gR, 2, none⟩) hgg.out _).far (p := ⟨gR, 3, none⟩) hgg.out _).far (p := ⟨gR, 4, none⟩) hgg.out _
      · exact ((((hH9.out.newD (p := ⟨gR, 0, none⟩) hRw.out _).newD (p := ⟨gR, 1, none⟩) hRw.out _).newD (p := ⟨gR, 2, none⟩) hRw.out _).newD (p := ⟨gR, 3, none⟩) hRw.out _).newD (p := ⟨gR, 4, none⟩) hRw.out _
end Go.Proofs.Ytmhdijklindipaa

/- Drawn instructions, and what is near one. -/
namespace Go.Proofs.Ytmhdijklindipaa
open Go.RowKit
set_option linter.unusedVariables false
set_option maxRecDepth 100000

def an1 : List Int := [-1, 6]
def an2 : List Int := [-1, 0, 6, 4611686018427387904]
def an3 : List Int := [-1, 0, 1, 6]
def an4 : List Int := [-1, 0, 1, 3, 4, 5, 6, 63, 64]
def ops5 : List ByteArray := [⟨#[]⟩, ⟨#[99,111,110,115,116]⟩, ⟨#[110,111,112]⟩, ⟨#[115,101,116]⟩, ⟨#[108,101,97]⟩]
theorem ops5_size : ∀ s ∈ ops5, s.size ≤ 100 := by decide
theorem ops5_cells : (ops5.flatMap encD).toArray = #[.string ⟨#[]⟩, .string ⟨#[99,111,110,115,116]⟩, .string ⟨#[110,111,112]⟩, .string ⟨#[115,101,116]⟩, .string ⟨#[108,101,97]⟩] := rfl

set_option maxHeartbeats 16000000 in
theorem anyInstr_any (g K : Nat) (w : World) (hK : K ≤ 600000000) (hc : Cur w g K) :
    Calls Try.prog 154 #[.pointer (some ⟨g, 0, none⟩)] w (DrX w g (K + 18)) := by
  have HP := Lib.hid fun (K : Nat) (n : Int) (W : World) (hK : K ≤ 900000000) (hn : n ≤ 10000) (hc : Cur W g K) => pick_any g K n W hK hn hc
  have a0 := (Below.refl w.heap.size w).alloc (Nat.le_refl _) (.cells #[.string ⟨#[]⟩, .int .i64 0, .int .i64 0, .int .i64 0, .int .i64 0] 56)
  have hgw := hc.lt
  obtain ⟨gR, hgR⟩ : ∃ x, x = w.heap.size := ⟨_, rfl⟩
  have hY0 : XB (w.alloc (.cells #[.string ⟨#[]⟩, .int .i64 0, .int .i64 0, .int .i64 0, .int .i64 0] 56)) gR ⟨ByteArray.empty, 0, 0, 0, 0⟩ := by rw [hgR]; exact heap_alloc_new w _
  have hc0 := hc.below a0
  have hh0 : Chg g (g + 1) w (w.alloc (.cells #[.string ⟨#[]⟩, .int .i64 0, .int .i64 0, .int .i64 0, .int .i64 0] 56)) := (Chg.refl _ _ _).alloc _
  have hgg : Hid (g < gR) := by unfold Hid; omega
  have hRw : Hid (w.heap.size ≤ gR) := by unfold Hid; omega
  have eW : w.heap.size = gR := hgR.symm
  have hEW := Lib.hid eW
  clear hgR a0 hc
  go_enter Try.func154, Try.ntmps154
  go_upto_region 1 with fail
  generalize w.alloc (.cells #[.string ⟨#[]⟩, .int .i64 0, .int .i64 0, .int .i64 0, .int .i64 0] 56) = W0 at *
  try rw [eW]
  clear eW
  have HI := Lib.hid (instr_any g K 6 W0 (by omega) (by omega) hc0)
  have hH0 := Lib.hid hh0
  have hY1 := Lib.hid hY0
  clear hc0 hh0 hY0
  go_wp2_with (fail)
  with_reducible refine HI.out.mono ?_
  rintro e w2 ⟨⟨s, d, a, b, m⟩, rfl, hsz', hcu, hch⟩
  have hsz := Lib.hid hsz'
  dsimp only at hsz ⊢
  clear hsz'
  have hX2 := Lib.hid (show XB (w2.alloc (.cells #[.string s, .int .i64 d, .int .i64 a, .int .i64 b, .int .i64 m] 56)) w2.heap.size ⟨s, d, a, b, m⟩ from heap_alloc_new w2 _)
  have a2 := (Below.refl w2.heap.size w2).alloc (Nat.le_refl _) (.cells #[.string s, .int .i64 d, .int .i64 a, .int .i64 b, .int .i64 m] 56)
  have hY2 := CB.chgD (show CB 56 W0 gR (In.enc ⟨ByteArray.empty, 0, 0, 0, 0⟩) from hY1.out) hch (.inr (by have := hgg.out; omega))
  have hYl := CB.lt hY2
  have hY3 : Hid (XB (w2.alloc (.cells #[.string s, .int .i64 d, .int .i64 a, .int .i64 b, .int .i64 m] 56)) gR ⟨ByteArray.empty, 0, 0, 0, 0⟩) := CB.below hY2 a2 hYl
  have hC3 := Lib.hid (hcu.below a2)
  have hH3 := Lib.hid ((hH0.out.trans hch).alloc (.cells #[.string s, .int .i64 d, .int .i64 a, .int .i64 b, .int .i64 m] 56))
  obtain ⟨gB, hgB⟩ : ∃ x, x = w2.heap.size := ⟨_, rfl⟩
  have hBR : Hid (gR < gB) := by unfold Hid; omega
  have hX3 : Hid (XB (w2.alloc (.cells #[.string s, .int .i64 d, .int .i64 a, .int .i64 b, .int .i64 m] 56)) gB ⟨s, d, a, b, m⟩) := by rw [hgB]; exact hX2.out
  have eB := hgB.symm
  clear hgB hX2 a2 hY2 hYl hcu hch hH0 hY1
  go_wp2_with (fail)
  generalize w2.alloc (.cells #[.string s, .int .i64 d, .int .i64 a, .int .i64 b, .int .i64 m] 56) = W3 at *
  try rw [eB]
  clear eB
  with_reducible refine (HP.out (K + 14) 14 W3 (by omega) (by omega) hC3.out).mono ?_
  rintro e w4 ⟨p, rfl, hp, hcu, hch⟩
  have hX4 := Lib.hid (CB.chgD (show CB 56 W3 gB (In.enc ⟨s, d, a, b, m⟩) from hX3.out) hch (.inr (by have := hgg.out; have := hBR.out; omega)))
  have hY4 := Lib.hid (CB.chgD (show CB 56 W3 gR (In.enc ⟨ByteArray.empty, 0, 0, 0, 0⟩) from hY3.out) hch (.inr (by have := hgg.out; omega)))
  have hC4 := Lib.hid hcu
  have hH4 := Lib.hid (hH3.out.trans hch)
  clear hcu hch hX3 hY3 hC3 hH3
  have hP := Lib.hid hp
  clear hp
  by_cases q0 : p = 0
  · subst q0
    have hIS := lit_is w4 an1
    have al := (Below.refl w4.heap.size w4).alloc (Nat.le_refl _) (.cells (intCells an1) 3)
    have hX5 := Lib.hid (CB.below (show CB 56 w4 gB (In.enc ⟨s, d, a, b, m⟩) from hX4.out) al (CB.lt hX4.out))
    have hY5 := Lib.hid (CB.below (show CB 56 w4 gR (In.enc ⟨ByteArray.empty, 0, 0, 0, 0⟩) from hY4.out) al (CB.lt hY4.out))
    have hC5 := Lib.hid (hC4.out.below al)
    have hH5 := Lib.hid (hH4.out.alloc (.cells (intCells an1) 3))
    have hgl := hC4.out.lt
    clear al hX4 hY4 hC4 hH4
    have hM := Lib.hid (among_any g (K + 16) w4.heap.size (w4.heap.size + 1) (some ⟨w4.heap.size, 0, none⟩) 2 2 an1 _ rfl (by omega) hC5.out (by decide) (by decide) hIS hgl (by simp))
    clear hIS hgl
    go_wp2_with (fail)
    refine hM.out.mono ?_
    rintro e w6 ⟨v, rfl, _, hcu, hch⟩
    have hX6 := Lib.hid (CB.chgD (show CB 56 (w4.alloc (.cells (intCells an1) 3)) gB (In.enc ⟨s, d, a, b, m⟩) from hX5.out) hch (.inr (by have := hgg.out; have := hBR.out; omega)))
    have hY6 := Lib.hid (CB.chgD (show CB 56 (w4.alloc (.cells (intCells an1) 3)) gR (In.enc ⟨ByteArray.empty, 0, 0, 0, 0⟩) from hY5.out) hch (.inr (by have := hgg.out; omega)))
    have hC6 := Lib.hid hcu
    have hH6 := Lib.hid (hH5.out.trans hch)
    clear hcu hch hX5 hY5 hC5 hH5
    clear hM
    have f7 := CB.frozen (show CB 56 w6 gB (In.enc ⟨s, d, a, b, m⟩) from hX6.out) 1
    have o7 := (CB.cell (show CB 56 w6 gB (In.enc ⟨s, d, a, b, m⟩) from hX6.out) 1).trans (rfl : _ = some (Value.int .i64 (d)))
    have hX7 : Hid (XB (w6.setCell ⟨gB, 1, none⟩ (.int .i64 (v))) gB ⟨s, (v), a, b, m⟩) := CB.set (show CB 56 w6 gB (In.enc ⟨s, d, a, b, m⟩) from hX6.out) 1 (.int .i64 (v))
    have hY7 : Hid (XB (w6.setCell ⟨gB, 1, none⟩ (.int .i64 (v))) gR ⟨ByteArray.empty, 0, 0, 0, 0⟩) := CB.farD (show CB 56 w6 gR (In.enc ⟨ByteArray.empty, 0, 0, 0, 0⟩) from hY6.out) (p := ⟨gB, 1, none⟩) (by show gB ≠ gR; have := hBR.out; omega) _
    have hC7 : Hid (Cur (w6.setCell ⟨gB, 1, none⟩ (.int .i64 (v))) g (K + 18)) := hC6.out.far (p := ⟨gB, 1, none⟩) (by show g < gB; have := hgg.out; have := hBR.out; omega) _
    have hH7 : Hid (Chg g (g + 1) w (w6.setCell ⟨gB, 1, none⟩ (.int .i64 (v)))) := hH6.out.newD (p := ⟨gB, 1, none⟩) (by show w.heap.size ≤ gB; have := hRw.out; have := hBR.out; omega) _
    clear hX6 hY6 hC6 hH6
    obtain ⟨x0, x1, x2, x3, x4⟩ := XB.cells hX7.out
    simp only at x0 x1 x2 x3 x4
    have p0 := CB.frozen (show CB 56 (w6.setCell ⟨gB, 1, none⟩ (.int .i64 (v))) gR (In.enc ⟨ByteArray.empty, 0, 0, 0, 0⟩) from hY7.out) 0
    have p1 := CB.frozen (show CB 56 (w6.setCell ⟨gB, 1, none⟩ (.int .i64 (v))) gR (In.enc ⟨ByteArray.empty, 0, 0, 0, 0⟩) from hY7.out) 1
    have p2 := CB.frozen (show CB 56 (w6.setCell ⟨gB, 1, none⟩ (.int .i64 (v))) gR (In.enc ⟨ByteArray.empty, 0, 0, 0, 0⟩) from hY7.out) 2
    have p3 := CB.frozen (show CB 56 (w6.setCell ⟨gB, 1, none⟩ (.int .i64 (v))) gR (In.enc ⟨ByteArray.empty, 0, 0, 0, 0⟩) from hY7.out) 3
    have p4 := CB.frozen (show CB 56 (w6.setCell ⟨gB, 1, none⟩ (.int .i64 (v))) gR (In.enc ⟨ByteArray.empty, 0, 0, 0, 0⟩) from hY7.out) 4
    obtain ⟨y0, y1, y2, y3, y4⟩ := XB.cells hY7.out
    simp only at y0 y1 y2 y3 y4
    have hne : ¬ gR = gB := by have := hBR.out; omega
    have hne2 : ¬ gB = gR := by have := hBR.out; omega
    go_wp2
    refine bodyPost_ret (v := .agg #[.string s, .int .i64 ((v)), .int .i64 (a), .int .i64 (b), .int .i64 (m)]) ?_ rfl ⟨⟨s, (v), a, b, m⟩, rfl, hsz.out, ?_, ?_⟩
    · obtain ⟨z0, z1, z2, z3, z4⟩ := (XB.five' ⟨s, (v), a, b, m⟩ hY7.out).cells
      generalize (World.setCell _ ⟨gR, 4, none⟩ _) = W at z0 z1 z2 z3 z4 ⊢
      simp only at z0 z1 z2 z3 z4
      simp [results, Try.results154, go_sem, z0, z1, z2, z3, z4]
    · have hcu := hC7.out.more (show K + 18 ≤ K + 18 by omega)
      exact ((((hcu.far (p := ⟨gR, 0, none⟩) hgg.out _).far (p := ⟨gR, 1, none⟩) hgg.out _).far (p := ⟨gR, 2, none⟩) hgg.out _).far (p := ⟨gR, 3, none⟩) hgg.out _).far (p := ⟨gR, 4, none⟩) hgg.out _
    · exact ((((hH7.out.newD (p := ⟨gR, 0, none⟩) hRw.out _).newD (p := ⟨gR, 1, none⟩) hRw.out _).newD (p := ⟨gR, 2, none⟩) hRw.out _).newD (p := ⟨gR, 3, none⟩) hRw.out _).newD (p := ⟨gR, 4, none⟩) hRw.out _
  by_cases q1 : p = 1
  · subst q1
    have hIS := lit_is w4 an2
    have al := (Below.refl w4.heap.size w4).alloc (Nat.le_refl _) (.cells (intCells an2) 3)
    have hX5 := Lib.hid (CB.below (show CB 56 w4 gB (In.enc ⟨s, d, a, b, m⟩) from hX4.out) al (CB.lt hX4.out))
    have hY5 := Lib.hid (CB.below (show CB 56 w4 gR (In.enc ⟨ByteArray.empty, 0, 0, 0, 0⟩) from hY4.out) al (CB.lt hY4.out))
    have hC5 := Lib.hid (hC4.out.below al)
    have hH5 := Lib.hid (hH4.out.alloc (.cells (intCells an2) 3))
    have hgl := hC4.out.lt
    clear al hX4 hY4 hC4 hH4
    have hM := Lib.hid (among_any g (K + 16) w4.heap.size (w4.heap.size + 1) (some ⟨w4.heap.size, 0, none⟩) 4 4 an2 _ rfl (by omega) hC5.out (by decide) (by decide) hIS hgl (by simp))
    clear hIS hgl
    go_wp2_with (fail)
    refine hM.out.mono ?_
    rintro e w6 ⟨v, rfl, _, hcu, hch⟩
    have hX6 := Lib.hid (CB.chgD (show CB 56 (w4.alloc (.cells (intCells an2) 3)) gB (In.enc ⟨s, d, a, b, m⟩) from hX5.out) hch (.inr (by have := hgg.out; have := hBR.out; omega)))
    have hY6 := Lib.hid (CB.chgD (show CB 56 (w4.alloc (.cells (intCells an2) 3)) gR (In.enc ⟨ByteArray.empty, 0, 0, 0, 0⟩) from hY5.out) hch (.inr (by have := hgg.out; omega)))
    have hC6 := Lib.hid hcu
    have hH6 := Lib.hid (hH5.out.trans hch)
    clear hcu hch hX5 hY5 hC5 hH5
    clear hM
    have f7 := CB.frozen (show CB 56 w6 gB (In.enc ⟨s, d, a, b, m⟩) from hX6.out) 2
    have o7 := (CB.cell (show CB 56 w6 gB (In.enc ⟨s, d, a, b, m⟩) from hX6.out) 2).trans (rfl : _ = some (Value.int .i64 (a)))
    have hX7 : Hid (XB (w6.setCell ⟨gB, 2, none⟩ (.int .i64 (v))) gB ⟨s, d, (v), b, m⟩) := CB.set (show CB 56 w6 gB (In.enc ⟨s, d, a, b, m⟩) from hX6.out) 2 (.int .i64 (v))
    have hY7 : Hid (XB (w6.setCell ⟨gB, 2, none⟩ (.int .i64 (v))) gR ⟨ByteArray.empty, 0, 0, 0, 0⟩) := CB.farD (show CB 56 w6 gR (In.enc ⟨ByteArray.empty, 0, 0, 0, 0⟩) from hY6.out) (p := ⟨gB, 2, none⟩) (by show gB ≠ gR; have := hBR.out; omega) _
    have hC7 : Hid (Cur (w6.setCell ⟨gB, 2, none⟩ (.int .i64 (v))) g (K + 18)) := hC6.out.far (p := ⟨gB, 2, none⟩) (by show g < gB; have := hgg.out; have := hBR.out; omega) _
    have hH7 : Hid (Chg g (g + 1) w (w6.setCell ⟨gB, 2, none⟩ (.int .i64 (v)))) := hH6.out.newD (p := ⟨gB, 2, none⟩) (by show w.heap.size ≤ gB; have := hRw.out; have := hBR.out; omega) _
    clear hX6 hY6 hC6 hH6
    obtain ⟨x0, x1, x2, x3, x4⟩ := XB.cells hX7.out
    simp only at x0 x1 x2 x3 x4
    have p0 := CB.frozen (show CB 56 (w6.setCell ⟨gB, 2, none⟩ (.int .i64 (v))) gR (In.enc ⟨ByteArray.empty, 0, 0, 0, 0⟩) from hY7.out) 0
    have p1 := CB.frozen (show CB 56 (w6.setCell ⟨gB, 2, none⟩ (.int .i64 (v))) gR (In.enc ⟨ByteArray.empty, 0, 0, 0, 0⟩) from hY7.out) 1
    have p2 := CB.frozen (show CB 56 (w6.setCell ⟨gB, 2, none⟩ (.int .i64 (v))) gR (In.enc ⟨ByteArray.empty, 0, 0, 0, 0⟩) from hY7.out) 2
    have p3 := CB.frozen (show CB 56 (w6.setCell ⟨gB, 2, none⟩ (.int .i64 (v))) gR (In.enc ⟨ByteArray.empty, 0, 0, 0, 0⟩) from hY7.out) 3
    have p4 := CB.frozen (show CB 56 (w6.setCell ⟨gB, 2, none⟩ (.int .i64 (v))) gR (In.enc ⟨ByteArray.empty, 0, 0, 0, 0⟩) from hY7.out) 4
    obtain ⟨y0, y1, y2, y3, y4⟩ := XB.cells hY7.out
    simp only at y0 y1 y2 y3 y4
    have hne : ¬ gR = gB := by have := hBR.out; omega
    have hne2 : ¬ gB = gR := by have := hBR.out; omega
    go_wp2
    refine bodyPost_ret (v := .agg #[.string s, .int .i64 (d), .int .i64 ((v)), .int .i64 (b), .int .i64 (m)]) ?_ rfl ⟨⟨s, d, (v), b, m⟩, rfl, hsz.out, ?_, ?_⟩
    · obtain ⟨z0, z1, z2, z3, z4⟩ := (XB.five' ⟨s, d, (v), b, m⟩ hY7.out).cells
      generalize (World.setCell _ ⟨gR, 4, none⟩ _) = W at z0 z1 z2 z3 z4 ⊢
      simp only at z0 z1 z2 z3 z4
      simp [results, Try.results154, go_sem, z0, z1, z2, z3, z4]
    · have hcu := hC7.out.more (show K + 18 ≤ K + 18 by omega)
      exact ((((hcu.far (p := ⟨gR, 0, none⟩) hgg.out _).far (p := ⟨gR, 1, none⟩) hgg.out _).far (p := ⟨gR, 2, none⟩) hgg.out _).far (p := ⟨gR, 3, none⟩) hgg.out _).far (p := ⟨gR, 4, none⟩) hgg.out _
    · exact ((((hH7.out.newD (p := ⟨gR, 0, none⟩) hRw.out _).newD (p := ⟨gR, 1, none⟩) hRw.out _).newD (p := ⟨gR, 2, none⟩) hRw.out _).newD (p := ⟨gR, 3, none⟩) hRw.out _).newD (p := ⟨gR, 4, none⟩) hRw.out _
  by_cases q2 : p = 2
  · subst q2
    have hIS := lit_is w4 an3
    have al := (Below.refl w4.heap.size w4).alloc (Nat.le_refl _) (.cells (intCells an3) 3)
    have hX5 := Lib.hid (CB.below (show CB 56 w4 gB (In.enc ⟨s, d, a, b, m⟩) from hX4.out) al (CB.lt hX4.out))
    have hY5 := Lib.hid (CB.below (show CB 56 w4 gR (In.enc ⟨ByteArray.empty, 0, 0, 0, 0⟩) from hY4.out) al (CB.lt hY4.out))
    have hC5 := Lib.hid (hC4.out.below al)
    have hH5 := Lib.hid (hH4.out.alloc (.cells (intCells an3) 3))
    have hgl := hC4.out.lt
    clear al hX4 hY4 hC4 hH4
    have hM := Lib.hid (among_any g (K + 16) w4.heap.size (w4.heap.size + 1) (some ⟨w4.heap.size, 0, none⟩) 4 4 an3 _ rfl (by omega) hC5.out (by decide) (by decide) hIS hgl (by simp))
    clear hIS hgl
    go_wp2_with (fail)
    refine hM.out.mono ?_
    rintro e w6 ⟨v, rfl, _, hcu, hch⟩
    have hX6 := Lib.hid (CB.chgD (show CB 56 (w4.alloc (.cells (intCells an3) 3)) gB (In.enc ⟨s, d, a, b, m⟩) from hX5.out) hch (.inr (by have := hgg.out; have := hBR.out; omega)))
    have hY6 := Lib.hid (CB.chgD (show CB 56 (w4.alloc (.cells (intCells an3) 3)) gR (In.enc ⟨ByteArray.empty, 0, 0, 0, 0⟩) from hY5.out) hch (.inr (by have := hgg.out; omega)))
    have hC6 := Lib.hid hcu
    have hH6 := Lib.hid (hH5.out.trans hch)
    clear hcu hch hX5 hY5 hC5 hH5
    clear hM
    have f7 := CB.frozen (show CB 56 w6 gB (In.enc ⟨s, d, a, b, m⟩) from hX6.out) 3
    have o7 := (CB.cell (show CB 56 w6 gB (In.enc ⟨s, d, a, b, m⟩) from hX6.out) 3).trans (rfl : _ = some (Value.int .i64 (b)))
    have hX7 : Hid (XB (w6.setCell ⟨gB, 3, none⟩ (.int .i64 (v))) gB ⟨s, d, a, (v), m⟩) := CB.set (show CB 56 w6 gB (In.enc ⟨s, d, a, b, m⟩) from hX6.out) 3 (.int .i64 (v))
    have hY7 : Hid (XB (w6.setCell ⟨gB, 3, none⟩ (.int .i64 (v))) gR ⟨ByteArray.empty, 0, 0, 0, 0⟩) := CB.farD (show CB 56 w6 gR (In.enc ⟨ByteArray.empty, 0, 0, 0, 0⟩) from hY6.out) (p := ⟨gB, 3, none⟩) (by show gB ≠ gR; have := hBR.out; omega) _
    have hC7 : Hid (Cur (w6.setCell ⟨gB, 3, none⟩ (.int .i64 (v))) g (K + 18)) := hC6.out.far (p := ⟨gB, 3, none⟩) (by show g < gB; have := hgg.out; have := hBR.out; omega) _
    have hH7 : Hid (Chg g (g + 1) w (w6.setCell ⟨gB, 3, none⟩ (.int .i64 (v)))) := hH6.out.newD (p := ⟨gB, 3, none⟩) (by show w.heap.size ≤ gB; have := hRw.out; have := hBR.out; omega) _
    clear hX6 hY6 hC6 hH6
    obtain ⟨x0, x1, x2, x3, x4⟩ := XB.cells hX7.out
    simp only at x0 x1 x2 x3 x4
    have p0 := CB.frozen (show CB 56 (w6.setCell ⟨gB, 3, none⟩ (.int .i64 (v))) gR (In.enc ⟨ByteArray.empty, 0, 0, 0, 0⟩) from hY7.out) 0
    have p1 := CB.frozen (show CB 56 (w6.setCell ⟨gB, 3, none⟩ (.int .i64 (v))) gR (In.enc ⟨ByteArray.empty, 0, 0, 0, 0⟩) from hY7.out) 1
    have p2 := CB.frozen (show CB 56 (w6.setCell ⟨gB, 3, none⟩ (.int .i64 (v))) gR (In.enc ⟨ByteArray.empty, 0, 0, 0, 0⟩) from hY7.out) 2
    have p3 := CB.frozen (show CB 56 (w6.setCell ⟨gB, 3, none⟩ (.int .i64 (v))) gR (In.enc ⟨ByteArray.empty, 0, 0, 0, 0⟩) from hY7.out) 3
    have p4 := CB.frozen (show CB 56 (w6.setCell ⟨gB, 3, none⟩ (.int .i64 (v))) gR (In.enc ⟨ByteArray.empty, 0, 0, 0, 0⟩) from hY7.out) 4
    obtain ⟨y0, y1, y2, y3, y4⟩ := XB.cells hY7.out
    simp only at y0 y1 y2 y3 y4
    have hne : ¬ gR = gB := by have := hBR.out; omega
    have hne2 : ¬ gB = gR := by have := hBR.out; omega
    go_wp2
    refine bodyPost_ret (v := .agg #[.string s, .int .i64 (d), .int .i64 (a), .int .i64 ((v)), .int .i64 (m)]) ?_ rfl ⟨⟨s, d, a, (v), m⟩, rfl, hsz.out, ?_, ?_⟩
    · obtain ⟨z0, z1, z2, z3, z4⟩ := (XB.five' ⟨s, d, a, (v), m⟩ hY7.out).cells
      generalize (World.setCell _ ⟨gR, 4, none⟩ _) = W at z0 z1 z2 z3 z4 ⊢
      simp only at z0 z1 z2 z3 z4
      simp [results, Try.results154, go_sem, z0, z1, z2, z3, z4]
    · have hcu := hC7.out.more (show K + 18 ≤ K + 18 by omega)
      exact ((((hcu.far (p := ⟨gR, 0, none⟩) hgg.out _).far (p := ⟨gR, 1, none⟩) hgg.out _).far (p := ⟨gR, 2, none⟩) hgg.out _).far (p := ⟨gR, 3, none⟩) hgg.out _).far (p := ⟨gR, 4, none⟩) hgg.out _
    · exact ((((hH7.out.newD (p := ⟨gR, 0, none⟩) hRw.out _).newD (p := ⟨gR, 1, none⟩) hRw.out _).newD (p := ⟨gR, 2, none⟩) hRw.out _).newD (p := ⟨gR, 3, none⟩) hRw.out _).newD (p := ⟨gR, 4, none⟩) hRw.out _
  by_cases q3 : p = 3
  · subst q3
    have hIS := lit_is w4 an4
    have al := (Below.refl w4.heap.size w4).alloc (Nat.le_refl _) (.cells (intCells an4) 3)
    have hX5 := Lib.hid (CB.below (show CB 56 w4 gB (In.enc ⟨s, d, a, b, m⟩) from hX4.out) al (CB.lt hX4.out))
    have hY5 := Lib.hid (CB.below (show CB 56 w4 gR (In.enc ⟨ByteArray.empty, 0, 0, 0, 0⟩) from hY4.out) al (CB.lt hY4.out))
    have hC5 := Lib.hid (hC4.out.below al)
    have hH5 := Lib.hid (hH4.out.alloc (.cells (intCells an4) 3))
    have hgl := hC4.out.lt
    clear al hX4 hY4 hC4 hH4
    have hM := Lib.hid (among_any g (K + 16) w4.heap.size (w4.heap.size + 1) (some ⟨w4.heap.size, 0, none⟩) 9 9 an4 _ rfl (by omega) hC5.out (by decide) (by decide) hIS hgl (by simp))
    clear hIS hgl
    go_wp2_with (fail)
    refine hM.out.mono ?_
    rintro e w6 ⟨v, rfl, _, hcu, hch⟩
    have hX6 := Lib.hid (CB.chgD (show CB 56 (w4.alloc (.cells (intCells an4) 3)) gB (In.enc ⟨s, d, a, b, m⟩) from hX5.out) hch (.inr (by have := hgg.out; have := hBR.out; omega)))
    have hY6 := Lib.hid (CB.chgD (show CB 56 (w4.alloc (.cells (intCells an4) 3)) gR (In.enc ⟨ByteArray.empty, 0, 0, 0, 0⟩) from hY5.out) hch (.inr (by have := hgg.out; omega)))
    have hC6 := Lib.hid hcu
    have hH6 := Lib.hid (hH5.out.trans hch)
    clear hcu hch hX5 hY5 hC5 hH5
    clear hM
    have f7 := CB.frozen (show CB 56 w6 gB (In.enc ⟨s, d, a, b, m⟩) from hX6.out) 4
    have o7 := (CB.cell (show CB 56 w6 gB (In.enc ⟨s, d, a, b, m⟩) from hX6.out) 4).trans (rfl : _ = some (Value.int .i64 (m)))
    have hX7 : Hid (XB (w6.setCell ⟨gB, 4, none⟩ (.int .i64 (v))) gB ⟨s, d, a, b, (v)⟩) := CB.set (show CB 56 w6 gB (In.enc ⟨s, d, a, b, m⟩) from hX6.out) 4 (.int .i64 (v))
    have hY7 : Hid (XB (w6.setCell ⟨gB, 4, none⟩ (.int .i64 (v))) gR ⟨ByteArray.empty, 0, 0, 0, 0⟩) := CB.farD (show CB 56 w6 gR (In.enc ⟨ByteArray.empty, 0, 0, 0, 0⟩) from hY6.out) (p := ⟨gB, 4, none⟩) (by show gB ≠ gR; have := hBR.out; omega) _
    have hC7 : Hid (Cur (w6.setCell ⟨gB, 4, none⟩ (.int .i64 (v))) g (K + 18)) := hC6.out.far (p := ⟨gB, 4, none⟩) (by show g < gB; have := hgg.out; have := hBR.out; omega) _
    have hH7 : Hid (Chg g (g + 1) w (w6.setCell ⟨gB, 4, none⟩ (.int .i64 (v)))) := hH6.out.newD (p := ⟨gB, 4, none⟩) (by show w.heap.size ≤ gB; have := hRw.out; have := hBR.out; omega) _
    clear hX6 hY6 hC6 hH6
    obtain ⟨x0, x1, x2, x3, x4⟩ := XB.cells hX7.out
    simp only at x0 x1 x2 x3 x4
    have p0 := CB.frozen (show CB 56 (w6.setCell ⟨gB, 4, none⟩ (.int .i64 (v))) gR (In.enc ⟨ByteArray.empty, 0, 0, 0, 0⟩) from hY7.out) 0
    have p1 := CB.frozen (show CB 56 (w6.setCell ⟨gB, 4, none⟩ (.int .i64 (v))) gR (In.enc ⟨ByteArray.empty, 0, 0, 0, 0⟩) from hY7.out) 1
    have p2 := CB.frozen (show CB 56 (w6.setCell ⟨gB, 4, none⟩ (.int .i64 (v))) gR (In.enc ⟨ByteArray.empty, 0, 0, 0, 0⟩) from hY7.out) 2
    have p3 := CB.frozen (show CB 56 (w6.setCell ⟨gB, 4, none⟩ (.int .i64 (v))) gR (In.enc ⟨ByteArray.empty, 0, 0, 0, 0⟩) from hY7.out) 3
    have p4 := CB.frozen (show CB 56 (w6.setCell ⟨gB, 4, none⟩ (.int .i64 (v))) gR (In.enc ⟨ByteArray.empty, 0, 0, 0, 0⟩) from hY7.out) 4
    obtain ⟨y0, y1, y2, y3, y4⟩ := XB.cells hY7.out
    simp only at y0 y1 y2 y3 y4
    have hne : ¬ gR = gB := by have := hBR.out; omega
    have hne2 : ¬ gB = gR := by have := hBR.out; omega
    go_wp2
    refine bodyPost_ret (v := .agg #[.string s, .int .i64 (d), .int .i64 (a), .int .i64 (b), .int .i64 ((v))]) ?_ rfl ⟨⟨s, d, a, b, (v)⟩, rfl, hsz.out, ?_, ?_⟩
    · obtain ⟨z0, z1, z2, z3, z4⟩ := (XB.five' ⟨s, d, a, b, (v)⟩ hY7.out).cells
      generalize (World.setCell _ ⟨gR, 4, none⟩ _) = W at z0 z1 z2 z3 z4 ⊢
      simp only at z0 z1 z2 z3 z4
      simp [results, Try.results154, go_sem, z0, z1, z2, z3, z4]
    · have hcu := hC7.out.more (show K + 18 ≤ K + 18 by omega)
      exact ((((hcu.far (p := ⟨gR, 0, none⟩) hgg.out _).far (p := ⟨gR, 1, none⟩) hgg.out _).far (p := ⟨gR, 2, none⟩) hgg.out _).far (p := ⟨gR, 3, none⟩) hgg.out _).far (p := ⟨gR, 4, none⟩) hgg.out _
    · exact ((((hH7.out.newD (p := ⟨gR, 0, none⟩) hRw.out _).newD (p := ⟨gR, 1, none⟩) hRw.out _).newD (p := ⟨gR, 2, none⟩) hRw.out _).newD (p := ⟨gR, 3, none⟩) hRw.out _).newD (p := ⟨gR, 4, none⟩) hRw.out _
  by_cases q4 : p = 4
  · subst q4
    have hIS := lit_ss w4 ops5
    have al := (Below.refl w4.heap.size w4).alloc (Nat.le_refl _) (.cells (ops5.flatMap encD).toArray 9)
    have hX5 := Lib.hid (CB.below (show CB 56 w4 gB (In.enc ⟨s, d, a, b, m⟩) from hX4.out) al (CB.lt hX4.out))
    have hY5 := Lib.hid (CB.below (show CB 56 w4 gR (In.enc ⟨ByteArray.empty, 0, 0, 0, 0⟩) from hY4.out) al (CB.lt hY4.out))
    have hC5 := Lib.hid (hC4.out.below al)
    have hH5 := Lib.hid (hH4.out.alloc (.cells (ops5.flatMap encD).toArray 9))
    have hgl := hC4.out.lt
    clear al hX4 hY4 hC4 hH4
    have hM := Lib.hid (of_any g (K + 16) w4.heap.size (w4.heap.size + 1) (some ⟨w4.heap.size, 0, none⟩) 5 5 ops5 _ rfl (by omega) hC5.out (by decide) (by decide) hIS hgl (by simp))
    clear hIS hgl
    rw [ops5_cells] at hM hX5 hY5 hC5 hH5
    go_wp2_with (fail)
    with_reducible refine hM.out.mono ?_
    rintro e w6 ⟨v, rfl, hmem, hcu, hch⟩
    have hsv := Lib.hid (ops5_size v hmem)
    clear hmem
    have hX6 := Lib.hid (CB.chgD (show CB 56 (w4.alloc (.cells #[.string ⟨#[]⟩, .string ⟨#[99,111,110,115,116]⟩, .string ⟨#[110,111,112]⟩, .string ⟨#[115,101,116]⟩, .string ⟨#[108,101,97]⟩] 9)) gB (In.enc ⟨s, d, a, b, m⟩) from hX5.out) hch (.inr (by have := hgg.out; have := hBR.out; omega)))
    have hY6 := Lib.hid (CB.chgD (show CB 56 (w4.alloc (.cells #[.string ⟨#[]⟩, .string ⟨#[99,111,110,115,116]⟩, .string ⟨#[110,111,112]⟩, .string ⟨#[115,101,116]⟩, .string ⟨#[108,101,97]⟩] 9)) gR (In.enc ⟨ByteArray.empty, 0, 0, 0, 0⟩) from hY5.out) hch (.inr (by have := hgg.out; omega)))
    have hC6 := Lib.hid hcu
    have hH6 := Lib.hid (hH5.out.trans hch)
    clear hcu hch hX5 hY5 hC5 hH5
    clear hM
    have f7 := CB.frozen (show CB 56 w6 gB (In.enc ⟨s, d, a, b, m⟩) from hX6.out) 0
    have o7 := (CB.cell (show CB 56 w6 gB (In.enc ⟨s, d, a, b, m⟩) from hX6.out) 0).trans (rfl : _ = some (Value.string s))
    have hX7 : Hid (XB (w6.setCell ⟨gB, 0, none⟩ (.string v)) gB ⟨(v), d, a, b, m⟩) := CB.set (show CB 56 w6 gB (In.enc ⟨s, d, a, b, m⟩) from hX6.out) 0 (.string v)
    have hY7 : Hid (XB (w6.setCell ⟨gB, 0, none⟩ (.string v)) gR ⟨ByteArray.empty, 0, 0, 0, 0⟩) := CB.farD (show CB 56 w6 gR (In.enc ⟨ByteArray.empty, 0, 0, 0, 0⟩) from hY6.out) (p := ⟨gB, 0, none⟩) (by show gB ≠ gR; have := hBR.out; omega) _
    have hC7 : Hid (Cur (w6.setCell ⟨gB, 0, none⟩ (.string v)) g (K + 18)) := hC6.out.far (p := ⟨gB, 0, none⟩) (by show g < gB; have := hgg.out; have := hBR.out; omega) _
    have hH7 : Hid (Chg g (g + 1) w (w6.setCell ⟨gB, 0, none⟩ (.string v))) := hH6.out.newD (p := ⟨gB, 0, none⟩) (by show w.heap.size ≤ gB; have := hRw.out; have := hBR.out; omega) _
    clear hX6 hY6 hC6 hH6
    obtain ⟨x0, x1, x2, x3, x4⟩ := XB.cells hX7.out
    simp only at x0 x1 x2 x3 x4
    have p0 := CB.frozen (show CB 56 (w6.setCell ⟨gB, 0, none⟩ (.string v)) gR (In.enc ⟨ByteArray.empty, 0, 0, 0, 0⟩) from hY7.out) 0
    have p1 := CB.frozen (show CB 56 (w6.setCell ⟨gB, 0, none⟩ (.string v)) gR (In.enc ⟨ByteArray.empty, 0, 0, 0, 0⟩) from hY7.out) 1
    have p2 := CB.frozen (show CB 56 (w6.setCell ⟨gB, 0, none⟩ (.string v)) gR (In.enc ⟨ByteArray.empty, 0, 0, 0, 0⟩) from hY7.out) 2
    have p3 := CB.frozen (show CB 56 (w6.setCell ⟨gB, 0, none⟩ (.string v)) gR (In.enc ⟨ByteArray.empty, 0, 0, 0, 0⟩) from hY7.out) 3
    have p4 := CB.frozen (show CB 56 (w6.setCell ⟨gB, 0, none⟩ (.string v)) gR (In.enc ⟨ByteArray.empty, 0, 0, 0, 0⟩) from hY7.out) 4
    obtain ⟨y0, y1, y2, y3, y4⟩ := XB.cells hY7.out
    simp only at y0 y1 y2 y3 y4
    have hne : ¬ gR = gB := by have := hBR.out; omega
    have hne2 : ¬ gB = gR := by have := hBR.out; omega
    go_wp2
    refine bodyPost_ret (v := .agg #[.string (v), .int .i64 (d), .int .i64 (a), .int .i64 (b), .int .i64 (m)]) ?_ rfl ⟨⟨(v), d, a, b, m⟩, rfl, hsv.out, ?_, ?_⟩
    · obtain ⟨z0, z1, z2, z3, z4⟩ := (XB.five' ⟨(v), d, a, b, m⟩ hY7.out).cells
      generalize (World.setCell _ ⟨gR, 4, none⟩ _) = W at z0 z1 z2 z3 z4 ⊢
      simp only at z0 z1 z2 z3 z4
      simp [results, Try.results154, go_sem, z0, z1, z2, z3, z4]
    · have hcu := hC7.out.more (show K + 18 ≤ K + 18 by omega)
      exact ((((hcu.far (p := ⟨gR, 0, none⟩) hgg.out _).far (p := ⟨gR, 1, none⟩) hgg.out _).far (p := ⟨gR, 2, none⟩) hgg.out _).far (p := ⟨gR, 3, none⟩) hgg.out _).far (p := ⟨gR, 4, none⟩) hgg.out _
    · exact ((((hH7.out.newD (p := ⟨gR, 0, none⟩) hRw.out _).newD (p := ⟨gR, 1, none⟩) hRw.out _).newD (p := ⟨gR, 2, none⟩) hRw.out _).newD (p := ⟨gR, 3, none⟩) hRw.out _).newD (p := ⟨gR, 4, none⟩) hRw.out _
  have q0' := Lib.hid q0
  have q1' := Lib.hid q1
  have q2' := Lib.hid q2
  have q3' := Lib.hid q3
  have q4' := Lib.hid q4
  have e0 : (p == 0) = false := by have := q0'.out; simpa using this
  have e1 : (p == 1) = false := by have := q1'.out; simpa using this
  have e2 : (p == 2) = false := by have := q2'.out; simpa using this
  have e3 : (p == 3) = false := by have := q3'.out; simpa using this
  have e4 : (p == 4) = false := by have := q4'.out; simpa using this
  clear q0 q1 q2 q3 q4
  obtain ⟨x0, x1, x2, x3, x4⟩ := XB.cells hX4.out
  simp only at x0 x1 x2 x3 x4
  have p0 := CB.frozen (show CB 56 w4 gR (In.enc ⟨ByteArray.empty, 0, 0, 0, 0⟩) from hY4.out) 0
  have p1 := CB.frozen (show CB 56 w4 gR (In.enc ⟨ByteArray.empty, 0, 0, 0, 0⟩) from hY4.out) 1
  have p2 := CB.frozen (show CB 56 w4 gR (In.enc ⟨ByteArray.empty, 0, 0, 0, 0⟩) from hY4.out) 2
  have p3 := CB.frozen (show CB 56 w4 gR (In.enc ⟨ByteArray.empty, 0, 0, 0, 0⟩) from hY4.out) 3
  have p4 := CB.frozen (show CB 56 w4 gR (In.enc ⟨ByteArray.empty, 0, 0, 0, 0⟩) from hY4.out) 4
  obtain ⟨y0, y1, y2, y3, y4⟩ := XB.cells hY4.out
  simp only at y0 y1 y2 y3 y4
  have hne : ¬ gR = gB := by have := hBR.out; omega
  have hne2 : ¬ gB = gR := by have := hBR.out; omega
  go_wp2
  refine bodyPost_ret (v := .agg #[.string s, .int .i64 (d), .int .i64 (a), .int .i64 (b), .int .i64 (m)]) ?_ rfl ⟨⟨s, d, a, b, m⟩, rfl, hsz.out, ?_, ?_⟩
  · obtain ⟨z0, z1, z2, z3, z4⟩ := (XB.five' ⟨s, d, a, b, m⟩ hY4.out).cells
    generalize (World.setCell _ ⟨gR, 4, none⟩ _) = W at z0 z1 z2 z3 z4 ⊢
    simp only at z0 z1 z2 z3 z4
    simp [results, Try.results154, go_sem, z0, z1, z2, z3, z4]
  · have hcu := hC4.out.more (show K + 16 ≤ K + 18 by omega)
    exact ((((hcu.far (p := ⟨gR, 0, none⟩) hgg.out _).far (p := ⟨gR, 1, none⟩) hgg.out _).far (p := ⟨gR, 2, none⟩) hgg.out _).far (p := ⟨gR, 3, none⟩) hgg.out _).far (p := ⟨gR, 4, none⟩) hgg.out _
  · exact ((((hH4.out.newD (p := ⟨gR, 0, none⟩) hRw.out _).newD (p := ⟨gR, 1, none⟩) hRw.out _).newD (p := ⟨gR, 2, none⟩) hRw.out _).newD (p := ⟨gR, 3, none⟩) hRw.out _).newD (p := ⟨gR, 4, none⟩) hRw.out _
end Go.Proofs.Ytmhdijklindipaa

namespace Go.Proofs.Ytmhdijklindipaa
open Go.RowKit
set_option linter.unusedVariables false
set_option maxRecDepth 100000

theorem step_unwanted {o : Oper} {y : Nat → Option Bool} {X E : Prop} (h : Region.wanted o y = false) (hE : E) : if Region.wanted o y = true then X else E := by rw [h]; exact hE
set_option maxHeartbeats 16000000 in
theorem cdFree_any (x y : In) (w : World) :
    Calls Try.prog 170 #[.agg #[.string x.op, .int .i64 x.d, .int .i64 x.a, .int .i64 x.b, .int .i64 x.m], .agg #[.string y.op, .int .i64 y.d, .int .i64 y.a, .int .i64 y.b, .int .i64 y.m]] w fun e w' => e = .returned (.bool (freeB x y)) ∧ Below w.heap.size w w' := by
  have hT : Hid (freeB x y = (!(x.d == y.d) && !hasI (readsL x) y.d && !hasI (readsL y) x.d)) := rfl
  have hRx := Lib.hid (cdReads_any x)
  have hRy := Lib.hid (cdReads_any y)
  have hLx := Lib.hid (readsL_len x)
  have hLy := Lib.hid (readsL_len y)
  generalize freeB x y = T at *
  generalize readsL x = Rx at *
  generalize readsL y = Ry at *
  obtain ⟨op, d, a, b, m⟩ := x
  obtain ⟨op', d', a', b', m'⟩ := y
  simp only at hT hRx hRy
  have hB2 := fun o o' => Lib.hid (((Below.refl w.heap.size w).alloc (Nat.le_refl _) o).alloc (by simp) o')
  by_cases h : d = d'
  · have hE : (d != d') = false := by simp [h]
    have hE' : (d == d') = true := by simp [h]
    have hF : Hid (T = false) := by rw [Hid, hT.out, hE']; rfl
    clear h
    go_enter Try.func170, Try.ntmps170
    go_wp2_with (fail)
    go_quiet (fail)
    go_wp2
    go_ret
    exact ⟨ret_bool hF.out.symm, below_drewN (hB2 _ _).out _⟩
  · have hE : (d != d') = true := by simp [h]
    have hE' : (d == d') = false := by simp [h]
    clear h
    cases hx : hasI Rx d'
    · have hX := Lib.hid hx
      have hHx := Lib.hid (fun L B A c W (h : IS W L B A Rx) => l1Has_lit L B A Rx.length c Rx d' _ W hx rfl (by have := hLx.out; omega) h)
      have hHy := Lib.hid (fun L B A c W (h : IS W L B A Ry) => l1Has_eq L B A Ry.length c Ry d W rfl (by have := hLy.out; omega) h)
      have hF : Hid (T = !hasI Ry d) := by rw [Hid, hT.out, hE', hx]; simp
      clear hx
      go_enter Try.func170, Try.ntmps170
      go_wp2_with (fail)
      obtain ⟨w1, hw1⟩ : ∃ w1 : World, w1 = (w.alloc (.cells #[.string op, .int .i64 d, .int .i64 a, .int .i64 b, .int .i64 m] 56)).alloc (.cells #[.string op', .int .i64 d', .int .i64 a', .int .i64 b', .int .i64 m'] 56) := ⟨_, rfl⟩
      rw [← hw1]
      obtain ⟨xa, xb, xc, xd, xe⟩ := In.box (RS.below (In.boxed (w := w) (t := 56) ⟨op, d, a, b, m⟩) (show Below (w.heap.size + 1) _ w1 by rw [hw1]; exact (Below.refl _ _).alloc (by simp) _) (by omega))
      have hy := In.boxed (w := w.alloc (.cells #[.string op, .int .i64 d, .int .i64 a, .int .i64 b, .int .i64 m] 56)) (t := 56) ⟨op', d', a', b', m'⟩
      rw [show (w.alloc (.cells #[.string op, .int .i64 d, .int .i64 a, .int .i64 b, .int .i64 m] 56)).heap.size = w.heap.size + 1 by simp, ← hw1] at hy
      obtain ⟨ya, yb, yc, yd, ye⟩ := In.box hy
      have hbw : Hid (Below w.heap.size w w1) := by rw [hw1]; exact (hB2 _ _).out
      have hz : w1.heap.size = w.heap.size + 2 := by rw [hw1]; simp
      have hz1 : w.heap.size < w1.heap.size := by omega
      have hz2 : w.heap.size + 1 < w1.heap.size := by omega
      clear hw1 hy hz
      simp only at xa xb xc xd xe ya yb yc yd ye
      go_region_law (first
        | (go_simp; go_at_call 160; (with_reducible refine (hRx.out _).mono ?_); rintro e w2 ⟨A2, c2, rfl, ho2, hb2⟩; have xa2 := (hb2.cell (p := ⟨w.heap.size, 0, none⟩) hz1).trans xa; have xb2 := (hb2.cell (p := ⟨w.heap.size, 1, none⟩) hz1).trans xb; have xc2 := (hb2.cell (p := ⟨w.heap.size, 2, none⟩) hz1).trans xc; have xd2 := (hb2.cell (p := ⟨w.heap.size, 3, none⟩) hz1).trans xd; have xe2 := (hb2.cell (p := ⟨w.heap.size, 4, none⟩) hz1).trans xe; have ya2 := (hb2.cell (p := ⟨w.heap.size + 1, 0, none⟩) hz2).trans ya; have yb2 := (hb2.cell (p := ⟨w.heap.size + 1, 1, none⟩) hz2).trans yb; have yc2 := (hb2.cell (p := ⟨w.heap.size + 1, 2, none⟩) hz2).trans yc; have yd2 := (hb2.cell (p := ⟨w.heap.size + 1, 3, none⟩) hz2).trans yd; have ye2 := (hb2.cell (p := ⟨w.heap.size + 1, 4, none⟩) hz2).trans ye; have hz12 : w.heap.size < w2.heap.size := (by have := hb2.size; exact Nat.lt_of_lt_of_le hz1 this); have hz22 : w.heap.size + 1 < w2.heap.size := (by have := hb2.size; exact Nat.lt_of_lt_of_le hz2 this))
        | (go_simp; go_at_call 160; (with_reducible refine (hRy.out _).mono ?_); rintro e w3 ⟨A3, c3, rfl, ho3, hb3⟩; have xa3 := (hb3.cell (p := ⟨w.heap.size, 0, none⟩) hz12).trans xa2; have xb3 := (hb3.cell (p := ⟨w.heap.size, 1, none⟩) hz12).trans xb2; have xc3 := (hb3.cell (p := ⟨w.heap.size, 2, none⟩) hz12).trans xc2; have xd3 := (hb3.cell (p := ⟨w.heap.size, 3, none⟩) hz12).trans xd2; have xe3 := (hb3.cell (p := ⟨w.heap.size, 4, none⟩) hz12).trans xe2; have ya3 := (hb3.cell (p := ⟨w.heap.size + 1, 0, none⟩) hz22).trans ya2; have yb3 := (hb3.cell (p := ⟨w.heap.size + 1, 1, none⟩) hz22).trans yb2; have yc3 := (hb3.cell (p := ⟨w.heap.size + 1, 2, none⟩) hz22).trans yc2; have yd3 := (hb3.cell (p := ⟨w.heap.size + 1, 3, none⟩) hz22).trans yd2; have ye3 := (hb3.cell (p := ⟨w.heap.size + 1, 4, none⟩) hz22).trans ye2)
        | (go_simp; go_at_call 179; (with_reducible refine (hHx.out _ _ _ _ _ (by exact ho2.rs)).mono ?_); rintro e w' ⟨rfl, rfl⟩)
        | (go_simp; go_at_call 179; (with_reducible refine (hHy.out _ _ _ _ _ (by exact ho3.rs)).mono ?_); rintro e w' ⟨rfl, rfl⟩))
      all_goals
        have hfin := Lib.hid (hbw.out.trans ((((Below.refl w1.heap.size w1).drew.trans hb2).trans (hb3.mono (by have := hb2.size; exact this))).mono (by omega)))
        go_wp2
        go_ret
        exact ⟨ret_bool (by rw [hF.out]), hfin.out⟩
    · have hX := Lib.hid hx
      have hHx := Lib.hid (fun L B A c W (h : IS W L B A Rx) => l1Has_lit L B A Rx.length c Rx d' _ W hx rfl (by have := hLx.out; omega) h)
      have hHy := Lib.hid (fun L B A c W (h : IS W L B A Ry) => l1Has_eq L B A Ry.length c Ry d W rfl (by have := hLy.out; omega) h)
      have hF : Hid (T = false) := by rw [Hid, hT.out, hE', hx]; rfl
      clear hx
      go_enter Try.func170, Try.ntmps170
      go_wp2_with (fail)
      obtain ⟨w1, hw1⟩ : ∃ w1 : World, w1 = (w.alloc (.cells #[.string op, .int .i64 d, .int .i64 a, .int .i64 b, .int .i64 m] 56)).alloc (.cells #[.string op', .int .i64 d', .int .i64 a', .int .i64 b', .int .i64 m'] 56) := ⟨_, rfl⟩
      rw [← hw1]
      obtain ⟨xa, xb, xc, xd, xe⟩ := In.box (RS.below (In.boxed (w := w) (t := 56) ⟨op, d, a, b, m⟩) (show Below (w.heap.size + 1) _ w1 by rw [hw1]; exact (Below.refl _ _).alloc (by simp) _) (by omega))
      have hy := In.boxed (w := w.alloc (.cells #[.string op, .int .i64 d, .int .i64 a, .int .i64 b, .int .i64 m] 56)) (t := 56) ⟨op', d', a', b', m'⟩
      rw [show (w.alloc (.cells #[.string op, .int .i64 d, .int .i64 a, .int .i64 b, .int .i64 m] 56)).heap.size = w.heap.size + 1 by simp, ← hw1] at hy
      obtain ⟨ya, yb, yc, yd, ye⟩ := In.box hy
      have hbw : Hid (Below w.heap.size w w1) := by rw [hw1]; exact (hB2 _ _).out
      have hz : w1.heap.size = w.heap.size + 2 := by rw [hw1]; simp
      have hz1 : w.heap.size < w1.heap.size := by omega
      have hz2 : w.heap.size + 1 < w1.heap.size := by omega
      clear hw1 hy hz
      simp only at xa xb xc xd xe ya yb yc yd ye
      first | (go_region_law (first
        | (refine step_unwanted (by rfl) ?_)
        | (go_simp; go_at_call 160; (with_reducible refine (hRx.out _).mono ?_); rintro e w2 ⟨A2, c2, rfl, ho2, hb2⟩; have xa2 := (hb2.cell (p := ⟨w.heap.size, 0, none⟩) hz1).trans xa; have xb2 := (hb2.cell (p := ⟨w.heap.size, 1, none⟩) hz1).trans xb; have xc2 := (hb2.cell (p := ⟨w.heap.size, 2, none⟩) hz1).trans xc; have xd2 := (hb2.cell (p := ⟨w.heap.size, 3, none⟩) hz1).trans xd; have xe2 := (hb2.cell (p := ⟨w.heap.size, 4, none⟩) hz1).trans xe; have ya2 := (hb2.cell (p := ⟨w.heap.size + 1, 0, none⟩) hz2).trans ya; have yb2 := (hb2.cell (p := ⟨w.heap.size + 1, 1, none⟩) hz2).trans yb; have yc2 := (hb2.cell (p := ⟨w.heap.size + 1, 2, none⟩) hz2).trans yc; have yd2 := (hb2.cell (p := ⟨w.heap.size + 1, 3, none⟩) hz2).trans yd; have ye2 := (hb2.cell (p := ⟨w.heap.size + 1, 4, none⟩) hz2).trans ye)
        | (go_simp; go_at_call 179; (with_reducible refine (hHx.out _ _ _ _ _ (by exact ho2.rs)).mono ?_); rintro e w' ⟨rfl, rfl⟩))) | fail
      all_goals
        go_wp2
        go_ret
        exact ⟨ret_bool hF.out.symm, hbw.out.trans (((Below.refl w1.heap.size w1).drew.trans hb2).mono (by omega))⟩
end Go.Proofs.Ytmhdijklindipaa

namespace Go.Proofs.Ytmhdijklindipaa
open Go.RowKit
set_option linter.unusedVariables false
set_option maxRecDepth 100000

/-- Two boxes beside each other. -/
def Two (t : TypeId) (w : World) (g : Nat) (x y : In) : Prop := CB t w g (In.enc x) ∧ CB t w (g + 1) (In.enc y)
theorem Two.below {t : TypeId} {w w' : World} {g C : Nat} {x y : In} (h : Two t w g x y) (hb : Below C w w') (hC : g + 1 < C) : Two t w' g x y := ⟨CB.below h.1 hb (by omega), CB.below h.2 hb hC⟩
theorem cb_cells {t : TypeId} {w : World} {g : Nat} {x : In} (h : CB t w g (In.enc x)) : w.cell? ⟨g, 0, none⟩ = some (.string x.op) ∧ w.cell? ⟨g, 1, none⟩ = some (.int .i64 x.d) ∧ w.cell? ⟨g, 2, none⟩ = some (.int .i64 x.a) ∧ w.cell? ⟨g, 3, none⟩ = some (.int .i64 x.b) ∧ w.cell? ⟨g, 4, none⟩ = some (.int .i64 x.m) := by
  refine ⟨?_, ?_, ?_, ?_, ?_⟩ <;> (rw [CB.cell h]; rfl)
theorem Two.cells {t : TypeId} {w : World} {g : Nat} {x y : In} (h : Two t w g x y) :
    (w.cell? ⟨g, 0, none⟩ = some (.string x.op) ∧ w.cell? ⟨g, 1, none⟩ = some (.int .i64 x.d) ∧ w.cell? ⟨g, 2, none⟩ = some (.int .i64 x.a) ∧ w.cell? ⟨g, 3, none⟩ = some (.int .i64 x.b) ∧ w.cell? ⟨g, 4, none⟩ = some (.int .i64 x.m)) ∧
    (w.cell? ⟨g + 1, 0, none⟩ = some (.string y.op) ∧ w.cell? ⟨g + 1, 1, none⟩ = some (.int .i64 y.d) ∧ w.cell? ⟨g + 1, 2, none⟩ = some (.int .i64 y.a) ∧ w.cell? ⟨g + 1, 3, none⟩ = some (.int .i64 y.b) ∧ w.cell? ⟨g + 1, 4, none⟩ = some (.int .i64 y.m)) := ⟨cb_cells h.1, cb_cells h.2⟩
theorem two_new (t : TypeId) (w : World) (x y : In) : Two t ((w.alloc (.cells #[.string x.op, .int .i64 x.d, .int .i64 x.a, .int .i64 x.b, .int .i64 x.m] t)).alloc (.cells #[.string y.op, .int .i64 y.d, .int .i64 y.a, .int .i64 y.b, .int .i64 y.m] t)) w.heap.size x y := by
  have h0 : CB t (w.alloc (.cells #[.string x.op, .int .i64 x.d, .int .i64 x.a, .int .i64 x.b, .int .i64 x.m] t)) w.heap.size (In.enc x) := heap_alloc_new w _
  refine ⟨CB.below h0 ((Below.refl _ _).alloc (Nat.le_refl _) _) (by simp), ?_⟩
  have h1 := heap_alloc_new (w.alloc (.cells #[.string x.op, .int .i64 x.d, .int .i64 x.a, .int .i64 x.b, .int .i64 x.m] t)) (.cells #[.string y.op, .int .i64 y.d, .int .i64 y.a, .int .i64 y.b, .int .i64 y.m] t)
  rw [show (w.alloc (.cells #[.string x.op, .int .i64 x.d, .int .i64 x.a, .int .i64 x.b, .int .i64 x.m] t)).heap.size = w.heap.size + 1 by simp] at h1
  exact h1
theorem two_below (w : World) (o o' : Obj) : Below w.heap.size w ((w.alloc o).alloc o') := ((Below.refl w.heap.size w).alloc (Nat.le_refl _) o).alloc (by simp) o'
def indR (x y : In) : Bool := goodIn x && goodIn y && freeB x y
def ResAreIndependent (R0 R1 : Bool) (w : World) (e : Ending) (w' : World) : Prop := e = .returned (.tuple #[.bool R0, .bool R1]) ∧ Below w.heap.size w w'
set_option maxHeartbeats 4000000 in
theorem sAreIndependent_any (x y : In) (w : World) :
    Calls Try.prog 59 #[.agg #[.string x.op, .int .i64 x.d, .int .i64 x.a, .int .i64 x.b, .int .i64 x.m], .agg #[.string y.op, .int .i64 y.d, .int .i64 y.a, .int .i64 y.b, .int .i64 y.m]] w (ResAreIndependent (indR x y) (goodIn x && goodIn y) w) := by
  obtain ⟨op, d, a, b, m⟩ := x
  obtain ⟨op', d', a', b', m'⟩ := y
  have hT0 := Lib.hid (two_new 56 w ⟨op, d, a, b, m⟩ ⟨op', d', a', b', m'⟩)
  have hB0 := Lib.hid (two_below w (.cells #[.string op, .int .i64 d, .int .i64 a, .int .i64 b, .int .i64 m] 56) (.cells #[.string op', .int .i64 d', .int .i64 a', .int .i64 b', .int .i64 m'] 56))
  simp only at hT0
  go_enter Try.func59, Try.ntmps59
  go_wp2_with (fail)
  refine (cdGood_any op d a b m _).mono ?_
  rintro e w1 ⟨rfl, hb⟩
  have hz1 := hb.size
  have hT1 := Lib.hid (hT0.out.below hb (by simp))
  have hB1 := Lib.hid (hB0.out.trans (hb.mono (by simp; omega)))
  clear hb
  cases hg : goodIn ⟨op, d, a, b, m⟩
  · have hR : Hid (indR ⟨op, d, a, b, m⟩ ⟨op', d', a', b', m'⟩ = false) := by simp [Hid, indR, hg]
    have hK : Hid ((goodIn ⟨op, d, a, b, m⟩ && goodIn ⟨op', d', a', b', m'⟩) = false) := by simp [Hid, hg]
    go_wp2
    go_ret2
    rw [hR.out, hK.out]; exact ⟨rfl, hB1.out⟩
  have hG := Lib.hid hg
  clear hg
  obtain ⟨⟨xa, xb, xc, xd, xe⟩, ⟨ya, yb, yc, yd, ye⟩⟩ := hT1.out.cells
  simp only at xa xb xc xd xe ya yb yc yd ye
  go_wp2_with (fail)
  refine (cdGood_any op' d' a' b' m' _).mono ?_
  rintro e w2 ⟨rfl, hb⟩
  clear xa xb xc xd xe ya yb yc yd ye
  have hz2 := hb.size
  simp at hz1
  have hT2 := Lib.hid (hT1.out.below hb (by omega))
  have hB2 := Lib.hid (hB1.out.trans (hb.mono (by omega)))
  clear hb
  cases hg : goodIn ⟨op', d', a', b', m'⟩
  · have hR : Hid (indR ⟨op, d, a, b, m⟩ ⟨op', d', a', b', m'⟩ = false) := by simp [Hid, indR, hg]
    have hK : Hid ((goodIn ⟨op, d, a, b, m⟩ && goodIn ⟨op', d', a', b', m'⟩) = false) := by simp [Hid, hg]
    go_wp2
    go_ret2
    rw [hR.out, hK.out]; exact ⟨rfl, hB2.out⟩
  have hK : Hid ((goodIn ⟨op, d, a, b, m⟩ && goodIn ⟨op', d', a', b', m'⟩) = true) := by rw [Hid, hG.out, hg]; rfl
  have hR : Hid (indR ⟨op, d, a, b, m⟩ ⟨op', d', a', b', m'⟩ = freeB ⟨op, d, a, b, m⟩ ⟨op', d', a', b', m'⟩) := by rw [Hid, indR, hG.out, hg]; rfl
  clear hg
  obtain ⟨⟨xa, xb, xc, xd, xe⟩, ⟨ya, yb, yc, yd, ye⟩⟩ := hT2.out.cells
  simp only at xa xb xc xd xe ya yb yc yd ye
  go_wp2_with (fail)
  refine (cdFree_any ⟨op, d, a, b, m⟩ ⟨op', d', a', b', m'⟩ _).mono ?_
  rintro e w3 ⟨rfl, hb⟩
  have hB3 := Lib.hid (hB2.out.trans (hb.mono (by omega)))
  clear hb xa xb xc xd xe ya yb yc yd ye
  generalize freeB ⟨op, d, a, b, m⟩ ⟨op', d', a', b', m'⟩ = F at *
  go_wp2
  go_ret2
  rw [hR.out, hK.out]; exact ⟨rfl, hB3.out⟩

set_option maxHeartbeats 4000000 in
theorem iAreIndependent_any (x y : In) (w : World) :
    Calls Try.prog 58 #[.agg #[.string x.op, .int .i64 x.d, .int .i64 x.a, .int .i64 x.b, .int .i64 x.m], .agg #[.string y.op, .int .i64 y.d, .int .i64 y.a, .int .i64 y.b, .int .i64 y.m]] w (ResAreIndependent (indR x y) (goodIn x && goodIn y) w) := by
  obtain ⟨op, d, a, b, m⟩ := x
  obtain ⟨op', d', a', b', m'⟩ := y
  have hT0 := Lib.hid (two_new 56 w ⟨op, d, a, b, m⟩ ⟨op', d', a', b', m'⟩)
  have hB0 := Lib.hid (two_below w (.cells #[.string op, .int .i64 d, .int .i64 a, .int .i64 b, .int .i64 m] 56) (.cells #[.string op', .int .i64 d', .int .i64 a', .int .i64 b', .int .i64 m'] 56))
  simp only at hT0
  go_enter Try.func58, Try.ntmps58
  go_wp2_with (fail)
  refine (IsInstr_any op d a b m _).mono ?_
  rintro e w1 ⟨rfl, hb⟩
  have hz1 := hb.size
  have hT1 := Lib.hid (hT0.out.below hb (by simp))
  have hB1 := Lib.hid (hB0.out.trans (hb.mono (by simp; omega)))
  clear hb
  cases hg : goodIn ⟨op, d, a, b, m⟩
  · have hR : Hid (indR ⟨op, d, a, b, m⟩ ⟨op', d', a', b', m'⟩ = false) := by simp [Hid, indR, hg]
    have hK : Hid ((goodIn ⟨op, d, a, b, m⟩ && goodIn ⟨op', d', a', b', m'⟩) = false) := by simp [Hid, hg]
    go_wp2
    go_ret2
    rw [hR.out, hK.out]; exact ⟨rfl, hB1.out⟩
  have hG := Lib.hid hg
  clear hg
  obtain ⟨⟨xa, xb, xc, xd, xe⟩, ⟨ya, yb, yc, yd, ye⟩⟩ := hT1.out.cells
  simp only at xa xb xc xd xe ya yb yc yd ye
  go_wp2_with (fail)
  refine (IsInstr_any op' d' a' b' m' _).mono ?_
  rintro e w2 ⟨rfl, hb⟩
  clear xa xb xc xd xe ya yb yc yd ye
  have hz2 := hb.size
  simp at hz1
  have hT2 := Lib.hid (hT1.out.below hb (by omega))
  have hB2 := Lib.hid (hB1.out.trans (hb.mono (by omega)))
  clear hb
  cases hg : goodIn ⟨op', d', a', b', m'⟩
  · have hR : Hid (indR ⟨op, d, a, b, m⟩ ⟨op', d', a', b', m'⟩ = false) := by simp [Hid, indR, hg]
    have hK : Hid ((goodIn ⟨op, d, a, b, m⟩ && goodIn ⟨op', d', a', b', m'⟩) = false) := by simp [Hid, hg]
    go_wp2
    go_ret2
    rw [hR.out, hK.out]; exact ⟨rfl, hB2.out⟩
  have hK : Hid ((goodIn ⟨op, d, a, b, m⟩ && goodIn ⟨op', d', a', b', m'⟩) = true) := by rw [Hid, hG.out, hg]; rfl
  have hR : Hid (indR ⟨op, d, a, b, m⟩ ⟨op', d', a', b', m'⟩ = freeB ⟨op, d, a, b, m⟩ ⟨op', d', a', b', m'⟩) := by rw [Hid, indR, hG.out, hg]; rfl
  clear hg
  obtain ⟨⟨xa, xb, xc, xd, xe⟩, ⟨ya, yb, yc, yd, ye⟩⟩ := hT2.out.cells
  simp only at xa xb xc xd xe ya yb yc yd ye
  have hF := Lib.hid (free_touch ⟨op, d, a, b, m⟩ ⟨op', d', a', b', m'⟩)
  go_wp2_with (fail)
  refine (isTouching_any ⟨op, d, a, b, m⟩ ⟨op', d', a', b', m'⟩ _).mono ?_
  rintro e w3 ⟨rfl, hb⟩
  clear xa xb xc xd xe ya yb yc yd ye
  have hz3 := hb.size
  have hT3 := Lib.hid (hT2.out.below hb (by omega))
  have hB3 := Lib.hid (hB2.out.trans (hb.mono (by omega)))
  clear hb
  cases ht : touchB ⟨op, d, a, b, m⟩ ⟨op', d', a', b', m'⟩
  · have hF' : Hid (freeB ⟨op, d, a, b, m⟩ ⟨op', d', a', b', m'⟩ = !touchB ⟨op', d', a', b', m'⟩ ⟨op, d, a, b, m⟩) := by rw [Hid, hF.out, ht]; simp
    obtain ⟨⟨xa, xb, xc, xd, xe⟩, ⟨ya, yb, yc, yd, ye⟩⟩ := hT3.out.cells
    simp only at xa xb xc xd xe ya yb yc yd ye
    go_wp2_with (fail)
    refine (isTouching_any ⟨op', d', a', b', m'⟩ ⟨op, d, a, b, m⟩ _).mono ?_
    rintro e w4 ⟨rfl, hb⟩
    have hB4 := Lib.hid (hB3.out.trans (hb.mono (by omega)))
    clear hb xa xb xc xd xe ya yb yc yd ye
    generalize touchB ⟨op', d', a', b', m'⟩ ⟨op, d, a, b, m⟩ = F at *
    go_wp2
    go_ret2
    rw [hR.out, hK.out, hF'.out]; exact ⟨rfl, hB4.out⟩
  · have hF' : Hid (freeB ⟨op, d, a, b, m⟩ ⟨op', d', a', b', m'⟩ = false) := by rw [Hid, hF.out, ht]; simp
    go_wp2
    go_ret2
    rw [hR.out, hK.out, hF'.out]; exact ⟨rfl, hB3.out⟩

end Go.Proofs.Ytmhdijklindipaa

namespace Go.Proofs.Ytmhdijklindipaa
open Go.RowKit
set_option linter.unusedVariables false
set_option maxRecDepth 100000

theorem five_one (y : In) : ∀ u ∈ In.enc y, u.oneCell' = true := by intro u hu; simp [In.enc] at hu; rcases hu with rfl | rfl | rfl | rfl | rfl <;> rfl
theorem five_ones (es : List In) : ∀ u ∈ es.flatMap In.enc, u.oneCell' = true := by
  intro u hu
  obtain ⟨x, _, hx⟩ := List.mem_flatMap.1 hu
  exact five_one x u hx
theorem OK.ofRow {w : World} {lo : Nat} {v : Value} {n : Nat} {xs : List In} (h : w.ownsRow lo 56 5 v n (xs.flatMap In.enc)) (hn : n = xs.length) : OK In.enc 5 56 w lo w.heap.size v xs := by
  subst hn; exact ⟨h, fun j hj => (h.lt j hj).2⟩
set_option maxHeartbeats 1000000 in
/-- slices.Clone of code that lies in memory. -/
theorem CloneC_any (b o c : Nat) (xs : List In) (L B : Nat) (w : World) (hl : xs.length ≤ 1048576) (hx : RS In.enc 5 w L B (some ⟨b, o, none⟩) xs) (hB : B ≤ w.heap.size) :
    Calls Try.prog 168 #[.slice (some ⟨b, o, none⟩) xs.length c] w (FreshInstr w xs) := by
  obtain ⟨i0, hi, hz0, hz1, hz2⟩ := info_parts Try.infoInstr
  have hb0 := Lib.hid ((Below.refl w.heap.size w).alloc (Nat.le_refl _) (.cells #[] 56))
  have hnews := Lib.hid ((hx.below hb0.out hB).news In.hk)
  have hown := Lib.hid (World.ownsRow_made (base := w.heap.size) (e := 56) (size := 5) w #[] 0 (Nat.le_refl _) (by unfold maxLen; omega) (by simp))
  clear hx
  have heq := Lib.run_eql_slice_nil (P := Try.prog) w 42 56 (some ⟨b, o, none⟩) xs.length c 0 0 Try.underlying42
  simp only [Option.isNone_some] at heq
  go_enter Try.func168, Try.ntmps168
  go_wp2_with (at_builtin; refine wpList_append_src rfl _ _ 42 rfl w.heap.size 56 i0 _ 5 48 Try.underlying42 hi hz0 hz1 hz2 rfl (by decide) _ 0 [] rfl hown.out (some ⟨b, o, none⟩) xs.length c (xs.flatMap In.enc) rfl (kflat_len In.hk xs) hnews.out (five_ones xs) (by unfold maxLen; omega) (by omega) (by simp) ?_; intro v' w1 hown' hgrow _)
  simp only [Nat.zero_add, List.nil_append] at hown'
  have ho : Hid (OK In.enc 5 56 w1 w.heap.size w1.heap.size v' xs) := OK.ofRow hown' rfl
  have hb : Hid (Below w.heap.size w w1) := hb0.out.grown hgrow (by simp) (fun k hk => by cases hk; exact Nat.le_refl _)
  obtain ⟨A', c', rfl, _⟩ := OK.form In.hk ho.out
  clear hown' hgrow
  go_wp2
  go_ret
  exact ⟨_, _, rfl, ho.out, hb.out⟩

def swOk (es : List In) (i : Int) : Bool := okCode es && inR i 0 (es.length - 2) && freeB (es.getD i.toNat zeroIn) (es.getD (i.toNat + 1) zeroIn)
def swapR (es : List In) (i : Int) : List In := if swOk es i = true then (es.set i.toNat (es.getD (i.toNat + 1) zeroIn)).set (i.toNat + 1) (es.getD i.toNat zeroIn) else []
theorem swapR_len (es : List In) (i : Int) : (swapR es i).length ≤ 1048576 := by
  unfold swapR; split
  · rename_i h; simp only [swOk, Bool.and_eq_true] at h
    have := okCode_len h.1.1; simp; omega
  · simp
theorem swapR_no {es : List In} {i : Int} (h : swOk es i = false) : swapR es i = [] := by simp [swapR, h]
theorem inR_nat {i : Int} {n : Nat} (h : inR i 0 ((n : Int) - 2) = true) : ∃ k : Nat, i = k ∧ k + 1 < n := by
  rw [inR_iff] at h
  obtain ⟨k, rfl⟩ := Int.eq_ofNat_of_zero_le h.1
  exact ⟨k, rfl, by omega⟩

set_option maxHeartbeats 8000000 in
theorem iSwap_any (L B : Nat) (A : Option Addr) (c : Nat) (es : List In) (i : Int) (w : World) (hl : es.length ≤ 1048576) (hes : RS In.enc 5 w L B A es) (hB : B ≤ w.heap.size) :
    Calls Try.prog 55 #[.slice A es.length c, .int .i64 i] w (ResSwapNeighbours (swapR es i) (swOk es i) w) := by
  have H := Lib.hid (IsCode_any L B A c es w hl hes hB)
  have hE := Lib.hid hes
  have hBB := Lib.hid hB
  have hX := Lib.hid (fun W => isIndex_any i ((es.length : Int) - 1) W)
  rw [show (es.length : Int) - 1 - 1 = es.length - 2 by omega] at hX
  clear hes hB
  go_enter Try.func55, Try.ntmps55
  go_wp2_with (fail)
  refine H.out.mono ?_
  rintro e w2 ⟨rfl, hb⟩
  have hbb := Lib.hid hb
  have hz := hb.size
  have hE2 := Lib.hid (hE.out.below hb hBB.out)
  clear hb
  cases hg : okCode es
  · have hK : Hid (swOk es i = false) := by simp [Hid, swOk, hg]
    have hR := Lib.hid (swapR_no hK.out)
    go_wp2
    go_ret2
    rw [hR.out, hK.out]; exact ⟨none, 0, rfl, OK.nil _ _ _ _, hbb.out⟩
  have hG := Lib.hid hg
  have hlen := Lib.hid (okCode_len hg)
  have hall := Lib.hid (okCode_all hg)
  clear hg
  cases hr : inR i 0 ((es.length : Int) - 2)
  · have hK : Hid (swOk es i = false) := by simp [Hid, swOk, hr]
    have hR := Lib.hid (swapR_no hK.out)
    rw [hr] at hX
    clear hr
    go_wp2_with (go_at_call 167; refine (hX.out _).mono ?_; rintro e w' ⟨rfl, rfl⟩)
    go_ret2
    rw [hR.out, hK.out]; exact ⟨none, 0, rfl, OK.nil _ _ _ _, hbb.out⟩
  obtain ⟨n, rfl, hn⟩ := inR_nat hr
  have hr' := Lib.hid hr
  have hn' : n < es.length := by omega
  rw [hr] at hX
  obtain ⟨b, o, rfl, ⟨_, hbB⟩, hc⟩ := In.cells hE2.out (by omega)
  obtain ⟨c1, c2, c3, c4, c5⟩ := hc n hn'
  obtain ⟨d1, d2, d3, d4, d5⟩ := hc (n + 1) hn
  clear hc hr
  have hg0 : es.getD n zeroIn = es[n] := by rw [List.getD_eq_getElem?_getD, List.getElem?_eq_getElem hn']; rfl
  have hg1 : es.getD (n + 1) zeroIn = es[n + 1] := by rw [List.getD_eq_getElem?_getD, List.getElem?_eq_getElem hn]; rfl
  have hK0 : Hid (swOk es n = freeB es[n] es[n + 1]) := by rw [Hid, swOk, hG.out, hr'.out, Int.toNat_natCast, hg0, hg1]; rfl
  have hR0 : Hid (swOk es n = true → swapR es n = (es.set n es[n + 1]).set (n + 1) es[n]) := by intro h; rw [swapR, if_pos h, Int.toNat_natCast, hg0, hg1]
  have hA := Lib.hid (fun W => iAreIndependent_any es[n] es[n + 1] W)
  have hgd : goodIn es[n] = true ∧ goodIn es[n + 1] = true := ⟨hall.out _ (List.getElem_mem _), hall.out _ (List.getElem_mem _)⟩
  have hI : Hid (indR es[n] es[n + 1] = freeB es[n] es[n + 1] ∧ (goodIn es[n] && goodIn es[n + 1]) = true) := by rw [Hid, indR, hgd.1, hgd.2]; exact ⟨rfl, rfl⟩
  rw [hI.out.1, hI.out.2] at hA
  clear hgd hI hg0 hg1
  have i1 : (n : Int) < es.length := by omega
  have i2 : (n : Int) + 1 < es.length := by omega
  have hw1 : IntKind.i64.wrap ((n : Int) + 1) = (n : Int) + 1 := IntWalk.i64_in _ (by omega)
  have hw2 : ((n : Int) + 1).toNat = n + 1 := by omega
  have i0 : (0 : Int) ≤ (n : Int) + 1 := by omega
  have hCl := Lib.hid (fun W (h : RS In.enc 5 W L B (some ⟨b, o, none⟩) es) (hB : B ≤ W.heap.size) => CloneC_any b o c es L B W hl h hB)
  generalize hx : es[n] = x at *
  generalize hy : es[n + 1] = y at *
  obtain ⟨op, d, a, b1, m⟩ := x
  obtain ⟨op', d', a', b1', m'⟩ := y
  have hxx := Lib.hid hx
  have hyy := Lib.hid hy
  clear hx hy
  simp only at c1 c2 c3 c4 c5 d1 d2 d3 d4 d5 hA
  go_wp2_with (go_at_call 167; refine (hX.out _).mono ?_; rintro e w' ⟨rfl, rfl⟩)
  go_region_law (go_simp; go_at_call 58; (with_reducible refine (hA.out _).mono ?_); rintro e w3 ⟨rfl, hb3⟩)
  all_goals
    have hb3' := Lib.hid ((Below.refl w2.heap.size w2).drew.trans hb3)
    have hbb3 := Lib.hid (hbb.out.trans (hb3'.out.mono hz))
    have hz3 := hb3'.out.size
    have hE3 := Lib.hid (hE2.out.below hb3'.out (by have := hBB.out; omega))
    clear hb3
    cases hf : freeB ⟨op, d, a, b1, m⟩ ⟨op', d', a', b1', m'⟩
    · have hK : Hid (swOk es n = false) := by rw [Hid, hK0.out, hf]
      have hR := Lib.hid (swapR_no hK.out)
      go_wp2
      go_ret2
      rw [hR.out, hK.out]; exact ⟨none, 0, rfl, OK.nil _ _ _ _, hbb3.out⟩
    have hK : Hid (swOk es n = true) := by rw [Hid, hK0.out, hf]
    have hR := Lib.hid (hR0.out hK.out)
    clear hf c1 c2 c3 c4 c5 d1 d2 d3 d4 d5
    go_wp2_with (fail)
    refine (hCl.out _ hE3.out (by have := hBB.out; omega)).mono ?_
    rintro e w4 ⟨A4, k4, rfl, ho4, hb4⟩
    have hz4 := hb4.size
    have hbb4 := Lib.hid (hbb3.out.trans (hb4.mono (by omega)))
    have hE4 := Lib.hid (hE3.out.below hb4 (by have := hBB.out; omega))
    clear hb4
    rcases OK.open ho4 with ⟨_, h0⟩ | ⟨g, cap, hv, hgl, hgh, hlc, hcm, rest, hcb, hcl⟩
    · omega
    injection hv with e1 e2 e3; subst e1; subst e3
    obtain ⟨b2, o2, e5, ⟨_, hbB2⟩, hc⟩ := In.cells hE4.out (by omega)
    injection e5 with e5; injection e5 with e5 e6 _; subst e5; subst e6
    obtain ⟨c1, c2, c3, c4, c5⟩ := hc n hn'
    obtain ⟨d1, d2, d3, d4, d5⟩ := hc (n + 1) hn
    rw [hxx.out] at c1 c2 c3 c4 c5
    rw [hyy.out] at d1 d2 d3 d4 d5
    simp only at c1 c2 c3 c4 c5 d1 d2 d3 d4 d5
    have hCB := Lib.hid hcb
    obtain ⟨z0, z1, z2, z3, z4, p1, p2, p3, p4, p5⟩ := In.cellsB hcb n hn'
    obtain ⟨y0, y1, y2, y3, y4, q1, q2, q3, q4, q5⟩ := In.cellsB hcb (n + 1) hn
    have f1 := hcb.frozen (n * 5)
    have f2 := hcb.frozen (n * 5 + 1)
    have f3 := hcb.frozen (n * 5 + 2)
    have f4 := hcb.frozen (n * 5 + 3)
    have f5 := hcb.frozen (n * 5 + 4)
    have g1 := hcb.frozen ((n + 1) * 5)
    have g2 := hcb.frozen ((n + 1) * 5 + 1)
    have g3 := hcb.frozen ((n + 1) * 5 + 2)
    have g4 := hcb.frozen ((n + 1) * 5 + 3)
    have g5 := hcb.frozen ((n + 1) * 5 + 4)
    have hgb : Hid (b ≠ g) := by have := hBB.out; simp only [Hid]; omega
    have hne : ¬ b = g := hgb.out
    have hne' : ¬ g = b := fun h => hne h.symm
    clear hc hcb ho4
    go_wp2_with (fail)
    go_region_with (fail)
    all_goals
      have h1 := hCB.out.store In.hk n hn' ⟨op', d', a', b1', m'⟩
      have h2 := h1.store In.hk (n + 1) (by rw [List.length_set]; exact hn) ⟨op, d, a, b1, m⟩
      have hle : ((es.set n (⟨op', d', a', b1', m'⟩ : In)).set (n + 1) ⟨op, d, a, b1, m⟩).length = es.length := by rw [List.length_set, List.length_set]
      have h3 := OK.close (lo := w.heap.size) In.hk h2 (by omega) (CB.lt h2) (by rw [hle]; exact hlc) hcm (by rw [List.length_append, kflat_len In.hk, hle]; rw [List.length_append, kflat_len In.hk] at hcl; exact hcl)
      have hfin := Lib.hid h3
      have hle' := Lib.hid hle
      have hbf := Lib.hid (below_setCells (In.enc ⟨op, d, a, b1, m⟩) g ((n + 1) * 5) (below_setCells (In.enc ⟨op', d', a', b1', m'⟩) g (n * 5) hbb4.out (by omega)) (by omega))
      clear h1 h2 h3 hle
      simp only [setCells, In.enc, Nat.add_assoc, Nat.reduceAdd] at hfin hbf
      clear c1 c2 c3 c4 c5 d1 d2 d3 d4 d5 p1 p2 p3 p4 p5 q1 q2 q3 q4 q5 f1 f2 f3 f4 f5 g1 g2 g3 g4 g5 hCB
      generalize (World.setCell _ _ _) = W at hfin hbf ⊢
      generalize ((es.set n (⟨op', d', a', b1', m'⟩ : In)).set (n + 1) ⟨op, d, a, b1, m⟩) = Z at *
      go_wp2
      go_ret2
      rw [hR.out, hK.out]
      refine ⟨some ⟨g, 0, none⟩, k4, by rw [hle'.out]; rfl, ?_, ?_⟩
      · exact hfin.out
      · exact hbf.out.drew
end Go.Proofs.Ytmhdijklindipaa
