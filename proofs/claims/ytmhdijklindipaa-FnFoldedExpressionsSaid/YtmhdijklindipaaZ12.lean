/- Texts of this proof, one behind the other: RP, DR2, WM, WB, WC, MN. -/
import Derived.Test.YtmhdijklindipaaZ13
import Derived.Test.YtmhdijklindipaaLawC
import Derived.WalkKit
import Derived.WalkSpells
import Derived.WalkLawsBesides
import Derived.Lib.Hide
import Derived.Test.YtmhdijklindipaaDR1
import Derived.Test.YtmhdijklindipaaZ16
import Derived.Test.YtmhdijklindipaaCC
import Derived.Test.YtmhdijklindipaaF
import Derived.Test.YtmhdijklindipaaZ17
import Derived.Test.YtmhdijklindipaaD2
import Derived.Test.YtmhdijklindipaaLI
import Derived.Test.YtmhdijklindipaaK
import Derived.Test.YtmhdijklindipaaV2
namespace Go.Proofs.Ytmhdijklindipaa
open Go.RowKit
set_option linter.unusedVariables false
set_option maxRecDepth 100000

/-- A block of one instruction, written whole. -/
def XB (w : World) (g : Nat) (x : In) : Prop := CB 56 w g (In.enc x)
theorem XB.cells {w : World} {g : Nat} {x : In} (h : XB w g x) : w.cell? ⟨g, 0, none⟩ = some (.string x.op) ∧ w.cell? ⟨g, 1, none⟩ = some (.int .i64 x.d) ∧ w.cell? ⟨g, 2, none⟩ = some (.int .i64 x.a) ∧ w.cell? ⟨g, 3, none⟩ = some (.int .i64 x.b) ∧ w.cell? ⟨g, 4, none⟩ = some (.int .i64 x.m) := by
  refine ⟨?_, ?_, ?_, ?_, ?_⟩ <;> (rw [CB.cell h]; rfl)

theorem XB.other {w : World} {g : Nat} {x : In} (h : XB w g x) (p : Addr) (v : Value) (hp : p.block ≠ g) : XB (w.setCell p v) g x := by
  unfold XB CB at *
  rw [← h]
  simp [World.setCell, Array.getElem?_modify, hp]
theorem XB.five {w : World} {g : Nat} {x : In} (y : In) (h : XB w g x) (o : Obj) :
    XB ((((((w.setCell ⟨g, 0, none⟩ (.string y.op)).setCell ⟨g, 1, none⟩ (.int .i64 y.d)).setCell ⟨g, 2, none⟩ (.int .i64 y.a)).setCell ⟨g, 3, none⟩ (.int .i64 y.b)).setCell ⟨g, 4, none⟩ (.int .i64 y.m)).alloc o) g y := by
  have h5 : XB (((((w.setCell ⟨g, 0, none⟩ (.string y.op)).setCell ⟨g, 1, none⟩ (.int .i64 y.d)).setCell ⟨g, 2, none⟩ (.int .i64 y.a)).setCell ⟨g, 3, none⟩ (.int .i64 y.b)).setCell ⟨g, 4, none⟩ (.int .i64 y.m)) g y :=
    ((((CB.set h 0 _).set 1 _).set 2 _).set 3 _).set 4 _
  exact CB.below h5 ((Below.refl _ _).alloc (Nat.le_refl _) _) (CB.lt h5)
set_option maxHeartbeats 4000000 in
theorem renameInstr_any (x : In) (b o c : Nat) (ns : List Int) (w : World) (hx : goodIn x = true) (hbb : b < w.heap.size) (hc : Six w b o ns) :
    Calls Try.prog 164 #[.agg #[.string x.op, .int .i64 x.d, .int .i64 x.a, .int .i64 x.b, .int .i64 x.m], .slice (some ⟨b, o, none⟩) 6 c] w fun e w' =>
      e = .returned (.agg #[.string (ren ns x).op, .int .i64 (ren ns x).d, .int .i64 (ren ns x).a, .int .i64 (ren ns x).b, .int .i64 (ren ns x).m]) ∧ Below w.heap.size w w' := by
  obtain ⟨hd, ha, hb, hok, hm⟩ := good_parts hx
  have hz := good_zero hx
  obtain ⟨op, d, a, b', m⟩ := x
  obtain ⟨nd, rfl⟩ := Int.eq_ofNat_of_zero_le hd.1
  obtain ⟨na, rfl⟩ := Int.eq_ofNat_of_zero_le ha.1
  obtain ⟨nb, rfl⟩ := Int.eq_ofNat_of_zero_le hb.1
  simp only at hd ha hb hz
  have hR : ren ns ⟨op, nd, na, nb, m⟩ = ⟨op, ns.getD nd 0, if (fm op).a = true then ns.getD na 0 else 0, if (fm op).b = true then ns.getD nb 0 else 0, m⟩ := by simp [ren]
  generalize ren ns ⟨op, nd, na, nb, m⟩ = R at *
  obtain ⟨r0, r1, r2, r3, r4⟩ := R
  have hRR := Lib.hid hR
  simp only
  clear hR hok hm hx
  have hB := fun o1 o2 => ((Below.refl w.heap.size w).alloc (Nat.le_refl _) o1).alloc (by simp) o2
  have hSix := Lib.hid hc
  have hBB := Lib.hid hbb
  clear hc hbb
  go_enter Try.func164, Try.ntmps164
  go_wp2_with (fail)
  refine (formOf_any _ _).mono ?_
  rintro e w2 ⟨rfl, hb2⟩
  have hb0 := Lib.hid ((hB _ _).trans (hb2.mono (by simp; omega)))
  have hX : Hid (XB w2 w.heap.size ⟨op, nd, na, nb, m⟩) := by
    have h0 : XB (w.alloc (.cells #[.string op, .int .i64 nd, .int .i64 na, .int .i64 nb, .int .i64 m] 56)) w.heap.size ⟨op, nd, na, nb, m⟩ := heap_alloc_new w _
    exact (CB.below (CB.below h0 ((Below.refl _ _).alloc (Nat.le_refl _) _) (by simp)) hb2 (by simp; omega))
  have hX2 : Hid (XB w2 (w.heap.size + 1) ⟨ByteArray.empty, 0, 0, 0, 0⟩) := by
    have h0 := heap_alloc_new (w.alloc (.cells #[.string op, .int .i64 nd, .int .i64 na, .int .i64 nb, .int .i64 m] 56)) (.cells #[.string ByteArray.empty, .int .i64 0, .int .i64 0, .int .i64 0, .int .i64 0] 56)
    rw [show (w.alloc (.cells #[.string op, .int .i64 nd, .int .i64 na, .int .i64 nb, .int .i64 m] 56)).heap.size = w.heap.size + 1 by simp] at h0
    exact CB.below h0 hb2 (by simp)
  obtain ⟨xa, xb, xc, xd, xe⟩ := hX.out.cells
  obtain ⟨ya, yb, yc, yd, ye⟩ := hX2.out.cells
  simp only at xa xb xc xd xe ya yb yc yd ye
  have f1 := CB.frozen hX.out 1
  have f2 := CB.frozen hX.out 2
  have f3 := CB.frozen hX.out 3
  have p0 := CB.frozen hX2.out 0
  have p1 := CB.frozen hX2.out 1
  have p2 := CB.frozen hX2.out 2
  have p3 := CB.frozen hX2.out 3
  have p4 := CB.frozen hX2.out 4
  have hz1 : w.heap.size < w2.heap.size := CB.lt hX.out
  have hz2 : w.heap.size + 1 < w2.heap.size := CB.lt hX2.out
  have hs2 := hSix.out.below hb0.out hBB.out
  have hbl : b < w2.heap.size := by have := hBB.out; omega
  have hne : ¬ w.heap.size = b := by have := hBB.out; omega
  have hne2 : ¬ w.heap.size + 1 = b := by have := hBB.out; omega
  have q1 := hs2 nd (by omega)
  have q2 := hs2 na (by omega)
  have q3 := hs2 nb (by omega)
  have i1 : (nd : Int) < 6 := by omega
  have i2 : (na : Int) < 6 := by omega
  have i3 : (nb : Int) < 6 := by omega
  generalize ns.getD nd 0 = vd at *
  generalize ns.getD na 0 = va at *
  generalize ns.getD nb 0 = vb at *
  clear hs2 hb2 hB hX hd ha hb
  generalize fm op = f at *
  obtain ⟨ok, fa, fb, lo, hi, cc⟩ := f
  simp only [fmV] at hz hRR ⊢
  obtain ⟨hza, hzb⟩ := hz
  have hZa := Lib.hid hza
  have hZb := Lib.hid hzb
  clear hza hzb
  have hgg : Hid (w.heap.size ≠ w.heap.size + 1) := by simp [Hid]
  cases fa <;> cases fb
  · have hna : (na : Int) = 0 := hZa.out rfl
    simp only [hna] at xc i2 ⊢
    have hnb : (nb : Int) = 0 := hZb.out rfl
    simp only [hnb] at xd i3 ⊢
    go_wp2
    have e := hRR.out
    simp only [Bool.false_eq_true, if_false, if_true, In.mk.injEq] at e
    obtain ⟨e0, e1, e2, e3, e4⟩ := e
    refine bodyPost_ret (v := .agg #[.string op, .int .i64 vd, .int .i64 0, .int .i64 0, .int .i64 m]) ?_ rfl ⟨by rw [e0, e1, e2, e3, e4], ?_⟩
    · obtain ⟨z0, z1, z2, z3, z4⟩ := ((hX2.out.other ⟨w.heap.size, 1, none⟩ (.int .i64 vd) hgg.out).five ⟨op, vd, 0, 0, m⟩ (.cells #[.bool false, .bool false, .int .i64 lo, .int .i64 hi, .int .i64 cc] 131)).cells
      generalize (World.alloc _ _) = W at z0 z1 z2 z3 z4 ⊢
      simp only at z0 z1 z2 z3 z4
      simp [results, Try.results164, go_sem, z0, z1, z2, z3, z4]
    · refine Below.alloc ?_ (by simp [World.setCell]; omega) _
      iterate 6 (refine Below.setCell ?_ (by first | exact Nat.le_refl _ | exact Nat.le_succ _) _)
      exact hb0.out
  · have hna : (na : Int) = 0 := hZa.out rfl
    simp only [hna] at xc i2 ⊢
    go_wp2
    have e := hRR.out
    simp only [Bool.false_eq_true, if_false, if_true, In.mk.injEq] at e
    obtain ⟨e0, e1, e2, e3, e4⟩ := e
    refine bodyPost_ret (v := .agg #[.string op, .int .i64 vd, .int .i64 0, .int .i64 vb, .int .i64 m]) ?_ rfl ⟨by rw [e0, e1, e2, e3, e4], ?_⟩
    · obtain ⟨z0, z1, z2, z3, z4⟩ := (((hX2.out.other ⟨w.heap.size, 1, none⟩ (.int .i64 vd) hgg.out).other ⟨w.heap.size, 3, none⟩ (.int .i64 vb) hgg.out).five ⟨op, vd, 0, vb, m⟩ (.cells #[.bool false, .bool true, .int .i64 lo, .int .i64 hi, .int .i64 cc] 131)).cells
      generalize (World.alloc _ _) = W at z0 z1 z2 z3 z4 ⊢
      simp only at z0 z1 z2 z3 z4
      simp [results, Try.results164, go_sem, z0, z1, z2, z3, z4]
    · refine Below.alloc ?_ (by simp [World.setCell]; omega) _
      iterate 7 (refine Below.setCell ?_ (by first | exact Nat.le_refl _ | exact Nat.le_succ _) _)
      exact hb0.out
  · have hnb : (nb : Int) = 0 := hZb.out rfl
    simp only [hnb] at xd i3 ⊢
    go_wp2
    have e := hRR.out
    simp only [Bool.false_eq_true, if_false, if_true, In.mk.injEq] at e
    obtain ⟨e0, e1, e2, e3, e4⟩ := e
    refine bodyPost_ret (v := .agg #[.string op, .int .i64 vd, .int .i64 va, .int .i64 0, .int .i64 m]) ?_ rfl ⟨by rw [e0, e1, e2, e3, e4], ?_⟩
    · obtain ⟨z0, z1, z2, z3, z4⟩ := (((hX2.out.other ⟨w.heap.size, 1, none⟩ (.int .i64 vd) hgg.out).other ⟨w.heap.size, 2, none⟩ (.int .i64 va) hgg.out).five ⟨op, vd, va, 0, m⟩ (.cells #[.bool true, .bool false, .int .i64 lo, .int .i64 hi, .int .i64 cc] 131)).cells
      generalize (World.alloc _ _) = W at z0 z1 z2 z3 z4 ⊢
      simp only at z0 z1 z2 z3 z4
      simp [results, Try.results164, go_sem, z0, z1, z2, z3, z4]
    · refine Below.alloc ?_ (by simp [World.setCell]; omega) _
      iterate 7 (refine Below.setCell ?_ (by first | exact Nat.le_refl _ | exact Nat.le_succ _) _)
      exact hb0.out
  · go_wp2
    have e := hRR.out
    simp only [Bool.false_eq_true, if_false, if_true, In.mk.injEq] at e
    obtain ⟨e0, e1, e2, e3, e4⟩ := e
    refine bodyPost_ret (v := .agg #[.string op, .int .i64 vd, .int .i64 va, .int .i64 vb, .int .i64 m]) ?_ rfl ⟨by rw [e0, e1, e2, e3, e4], ?_⟩
    · obtain ⟨z0, z1, z2, z3, z4⟩ := ((((hX2.out.other ⟨w.heap.size, 1, none⟩ (.int .i64 vd) hgg.out).other ⟨w.heap.size, 2, none⟩ (.int .i64 va) hgg.out).other ⟨w.heap.size, 3, none⟩ (.int .i64 vb) hgg.out).five ⟨op, vd, va, vb, m⟩ (.cells #[.bool true, .bool true, .int .i64 lo, .int .i64 hi, .int .i64 cc] 131)).cells
      generalize (World.alloc _ _) = W at z0 z1 z2 z3 z4 ⊢
      simp only at z0 z1 z2 z3 z4
      simp [results, Try.results164, go_sem, z0, z1, z2, z3, z4]
    · refine Below.alloc ?_ (by simp [World.setCell]; omega) _
      iterate 8 (refine Below.setCell ?_ (by first | exact Nat.le_refl _ | exact Nat.le_succ _) _)
      exact hb0.out
end Go.Proofs.Ytmhdijklindipaa

/- Drawn instructions. -/
namespace Go.Proofs.Ytmhdijklindipaa
open Go.RowKit
set_option linter.unusedVariables false
set_option maxRecDepth 100000

theorem Chg.newD {lo hi : Nat} {w w' : World} (h : Chg lo hi w w') {p : Addr} (hp : w.heap.size ≤ p.block) (u : Value) : Chg lo hi w (w'.setCell p u) :=
  ⟨h.os, h.tape, h.output, by simpa [World.setCell] using h.size, fun j hj hn => (Below.heap_setCell w' p u j (by omega)).trans (h.block j hj hn)⟩
theorem CB.chgD {t : TypeId} {w w' : World} {b lo hi : Nat} {cur : List Value} (h : CB t w b cur) (hc : Chg lo hi w w') (hd : b < lo ∨ hi ≤ b) : CB t w' b cur := (hc.block b h.lt hd).trans h
theorem CB.farD {t : TypeId} {w : World} {b : Nat} {cur : List Value} (h : CB t w b cur) {p : Addr} (hp : p.block ≠ b) (u : Value) : CB t (w.setCell p u) b cur := (Below.heap_setCell w p u b (fun e => hp e.symm)).trans h
theorem XB.five' {w : World} {g : Nat} {x : In} (y : In) (h : XB w g x) :
    XB (((((w.setCell ⟨g, 0, none⟩ (.string y.op)).setCell ⟨g, 1, none⟩ (.int .i64 y.d)).setCell ⟨g, 2, none⟩ (.int .i64 y.a)).setCell ⟨g, 3, none⟩ (.int .i64 y.b)).setCell ⟨g, 4, none⟩ (.int .i64 y.m)) g y := ((((CB.set h 0 _).set 1 _).set 2 _).set 3 _).set 4 _
/-- What a draw of an instruction hands back. -/
def DrX (w : World) (g K : Nat) (e : Ending) (w' : World) : Prop := ∃ x : In, e = .returned (.agg #[.string x.op, .int .i64 x.d, .int .i64 x.a, .int .i64 x.b, .int .i64 x.m]) ∧ x.op.size ≤ 100 ∧ Cur w' g K ∧ Chg g (g + 1) w w'
theorem fm_lohi (s : ByteArray) : 0 ≤ (fm s).lo ∧ (fm s).lo ≤ 1 ∧ 0 ≤ (fm s).hi ∧ (fm s).hi ≤ 63 := by
  show (fun f : Fm => 0 ≤ f.lo ∧ f.lo ≤ 1 ∧ 0 ≤ f.hi ∧ f.hi ≤ 63) (fm s)
  unfold fm
  repeat (refine ite_P (P := fun f : Fm => 0 ≤ f.lo ∧ f.lo ≤ 1 ∧ 0 ≤ f.hi ∧ f.hi ≤ 63) (by decide) ?_)
  decide

def ops21 : List ByteArray := [⟨#[115,101,116]⟩, ⟨#[109,111,118]⟩, ⟨#[110,111,116]⟩, ⟨#[110,101,103]⟩, ⟨#[97,100,100]⟩, ⟨#[97,100,100]⟩, ⟨#[115,117,98]⟩, ⟨#[97,110,100]⟩, ⟨#[111,114]⟩, ⟨#[120,111,114]⟩, ⟨#[115,104,108]⟩, ⟨#[115,104,114]⟩, ⟨#[108,101,115,115]⟩, ⟨#[101,113]⟩, ⟨#[109,117,108]⟩, ⟨#[97,100,100,105]⟩, ⟨#[97,110,100,105]⟩, ⟨#[120,111,114,105]⟩, ⟨#[115,104,108,105]⟩, ⟨#[115,104,114,105]⟩, ⟨#[108,101,97]⟩]
theorem ops21_size : ∀ s ∈ ops21, s.size ≤ 100 := by decide
theorem ops21_cells : (ops21.flatMap encD).toArray = #[.string ⟨#[115,101,116]⟩, .string ⟨#[109,111,118]⟩, .string ⟨#[110,111,116]⟩, .string ⟨#[110,101,103]⟩, .string ⟨#[97,100,100]⟩, .string ⟨#[97,100,100]⟩, .string ⟨#[115,117,98]⟩, .string ⟨#[97,110,100]⟩, .string ⟨#[111,114]⟩, .string ⟨#[120,111,114]⟩, .string ⟨#[115,104,108]⟩, .string ⟨#[115,104,114]⟩, .string ⟨#[108,101,115,115]⟩, .string ⟨#[101,113]⟩, .string ⟨#[109,117,108]⟩, .string ⟨#[97,100,100,105]⟩, .string ⟨#[97,110,100,105]⟩, .string ⟨#[120,111,114,105]⟩, .string ⟨#[115,104,108,105]⟩, .string ⟨#[115,104,114,105]⟩, .string ⟨#[108,101,97]⟩] := rfl

set_option maxHeartbeats 16000000 in
theorem instr_any (g K : Nat) (regs : Int) (w : World) (hK : K ≤ 700000000) (hr : regs ≤ 100) (hc : Cur w g K) :
    Calls Try.prog 234 #[.pointer (some ⟨g, 0, none⟩), .int .i64 regs] w (DrX w g (K + 14)) := by
  have HP := Lib.hid fun (K : Nat) (n : Int) (W : World) (hK : K ≤ 900000000) (hn : n ≤ 10000) (hc : Cur W g K) => pick_any g K n W hK hn hc
  have HW := Lib.hid fun (K : Nat) (W : World) (hK : K ≤ 800000000) (hc : Cur W g K) => word_any g K W hK hc
  have a0 := (Below.refl w.heap.size w).alloc (Nat.le_refl _) (.cells #[.string ⟨#[]⟩, .int .i64 0, .int .i64 0, .int .i64 0, .int .i64 0] 56)
  have hgw := hc.lt
  obtain ⟨gR, hgR⟩ : ∃ x, x = w.heap.size := ⟨_, rfl⟩
  have hY0 : XB (w.alloc (.cells #[.string ⟨#[]⟩, .int .i64 0, .int .i64 0, .int .i64 0, .int .i64 0] 56)) gR ⟨ByteArray.empty, 0, 0, 0, 0⟩ := by rw [hgR]; exact heap_alloc_new w _
  have hc0 := hc.below a0
  have hh0 : Chg g (g + 1) w (w.alloc (.cells #[.string ⟨#[]⟩, .int .i64 0, .int .i64 0, .int .i64 0, .int .i64 0] 56)) := (Chg.refl _ _ _).alloc _
  have hgg : Hid (g < gR) := by unfold Hid; omega
  have hRw : Hid (w.heap.size ≤ gR) := by unfold Hid; omega
  have eW : w.heap.size = gR := hgR.symm
  have hEW := Lib.hid eW
  clear hgR a0 hc
  go_enter Try.func234, Try.ntmps234
  go_upto_region 1 with fail
  generalize w.alloc (.cells #[.string ⟨#[]⟩, .int .i64 0, .int .i64 0, .int .i64 0, .int .i64 0] 56) = W0 at *
  try rw [eW]
  clear eW
  obtain ⟨k1, k2, k3, k4⟩ := lit_cur hc0 hh0 (.cells (ops21.flatMap encD).toArray 9)
  have hO := Lib.hid (of_any g K W0.heap.size (W0.heap.size + 1) (some ⟨W0.heap.size, 0, none⟩) 21 21 ops21 _ rfl (by omega) k1 (by decide) (by decide) (lit_ss W0 ops21) k3 k4)
  have hY1 := Lib.hid (CB.below (show CB 56 W0 gR (In.enc ⟨ByteArray.empty, 0, 0, 0, 0⟩) from hY0) ((Below.refl W0.heap.size W0).alloc (Nat.le_refl _) (.cells (ops21.flatMap encD).toArray 9)) (CB.lt hY0))
  have hH1 := Lib.hid k2
  clear k1 k2 k3 k4 hY0 hc0 hh0
  rw [ops21_cells] at hO hY1 hH1
  go_wp2_with (fail)
  refine hO.out.mono ?_
  rintro e w2 ⟨s, rfl, hmem, hc2, hch2⟩
  have hsz := Lib.hid (ops21_size s hmem)
  have hC2 := Lib.hid hc2
  have hH2 := Lib.hid (hH1.out.trans hch2)
  have hY2 : Hid (XB w2 gR ⟨ByteArray.empty, 0, 0, 0, 0⟩) := CB.chgD hY1.out hch2 (.inr (by have := hgg.out; omega))
  have hlh := Lib.hid (fm_lohi s)
  have HI := Lib.hid fun (W : World) => cdImm_any s W
  clear hmem hc2 hch2 hO hH1 hY1
  go_wp2_with (fail)
  refine (cdShape_any s _).mono ?_
  rintro e w2' ⟨rfl, rfl⟩
  obtain ⟨l1, l2, l3, l4⟩ := hlh.out
  generalize fm s = f at *
  obtain ⟨ok, fa, fb, lo, hi, cc⟩ := f
  dsimp only at *
  clear hlh
  go_wp2_with (fail)
  refine (HP.out (K + 2) regs w2 (by omega) (by omega) hC2.out).mono ?_
  rintro e w3 ⟨d, rfl, _, hc3, hch3⟩
  have hX3 := Lib.hid (show XB (w3.alloc (.cells #[.string s, .int .i64 d, .int .i64 0, .int .i64 0, .int .i64 0] 56)) w3.heap.size ⟨s, d, 0, 0, 0⟩ from heap_alloc_new w3 _)
  have a3 := (Below.refl w3.heap.size w3).alloc (Nat.le_refl _) (.cells #[.string s, .int .i64 d, .int .i64 0, .int .i64 0, .int .i64 0] 56)
  have hY3 := CB.chgD (show CB 56 w2 gR (In.enc ⟨ByteArray.empty, 0, 0, 0, 0⟩) from hY2.out) hch3 (.inr (by have := hgg.out; omega))
  have hYl := CB.lt hY3
  have hY4 : Hid (XB (w3.alloc (.cells #[.string s, .int .i64 d, .int .i64 0, .int .i64 0, .int .i64 0] 56)) gR ⟨ByteArray.empty, 0, 0, 0, 0⟩) := CB.below hY3 a3 hYl
  have hC4 := Lib.hid (hc3.below a3)
  have hH4 := Lib.hid ((hH2.out.trans hch3).alloc (.cells #[.string s, .int .i64 d, .int .i64 0, .int .i64 0, .int .i64 0] 56))
  obtain ⟨gB, hgB⟩ : ∃ x, x = w3.heap.size := ⟨_, rfl⟩
  have hBR : Hid (gR < gB) := by unfold Hid; omega
  have hX4 : Hid (XB (w3.alloc (.cells #[.string s, .int .i64 d, .int .i64 0, .int .i64 0, .int .i64 0] 56)) gB ⟨s, d, 0, 0, 0⟩) := by rw [hgB]; exact hX3.out
  have eB := hgB.symm
  clear hgB hX3 a3 hY3 hYl hc3 hch3 hC2 hH2 hY2
  cases fa <;> cases fb
  · go_wp2_with (fail)
    generalize w3.alloc (.cells #[.string s, .int .i64 d, .int .i64 0, .int .i64 0, .int .i64 0] 56) = W4 at *
    try rw [eB]
    clear eB
    with_reducible refine (HI.out W4).mono ?_
    rintro e w5 ⟨rfl, hbe⟩
    have hX5 := Lib.hid (CB.below (show CB 56 W4 gB (In.enc ⟨s, d, 0, 0, 0⟩) from hX4.out) hbe (CB.lt hX4.out))
    have hY5 := Lib.hid (CB.below (show CB 56 W4 gR (In.enc ⟨ByteArray.empty, 0, 0, 0, 0⟩) from hY4.out) hbe (CB.lt hY4.out))
    have hC5 := Lib.hid (hC4.out.below hbe)
    have hH5 := Lib.hid (hH4.out.trans (Chg.ofBelow hbe))
    clear hbe hX4 hY4 hC4 hH4
    by_cases hm : 0 < hi
    · have hm2 : decide (0 < hi) = true := decide_eq_true hm
      by_cases h63 : hi = 63
      · subst h63
        rw [hm2]
        have hs1 : IntKind.i64.wrap (63 - lo) = 63 - lo := IntWalk.i64_in _ (by omega)
        have hs2 : IntKind.i64.wrap (63 - lo + 1) = 63 - lo + 1 := IntWalk.i64_in _ (by omega)
        go_wp2_with (fail)
        with_reducible refine (HP.out (K + 4) (63 - lo + 1) w5 (by omega) (by omega) hC5.out).mono ?_
        rintro e w6 ⟨xm, rfl, hxm, hcu, hch⟩
        have hX6 := Lib.hid (CB.chgD (show CB 56 w5 gB (In.enc ⟨s, d, 0, 0, 0⟩) from hX5.out) hch (.inr (by have := hgg.out; have := hBR.out; omega)))
        have hY6 := Lib.hid (CB.chgD (show CB 56 w5 gR (In.enc ⟨ByteArray.empty, 0, 0, 0, 0⟩) from hY5.out) hch (.inr (by have := hgg.out; omega)))
        have hC6 := Lib.hid hcu
        have hH6 := Lib.hid (hH5.out.trans hch)
        clear hcu hch hX5 hY5 hC5 hH5
        have hs3 : IntKind.i64.wrap (lo + xm) = lo + xm := IntWalk.i64_in _ (by omega)
        have f7 := CB.frozen (show CB 56 w6 gB (In.enc ⟨s, d, 0, 0, 0⟩) from hX6.out) 4
        have o7 := (CB.cell (show CB 56 w6 gB (In.enc ⟨s, d, 0, 0, 0⟩) from hX6.out) 4).trans (rfl : _ = some (Value.int .i64 (0)))
        have hX7 : Hid (XB (w6.setCell ⟨gB, 4, none⟩ (.int .i64 (lo + xm))) gB ⟨s, d, 0, 0, (lo + xm)⟩) := CB.set (show CB 56 w6 gB (In.enc ⟨s, d, 0, 0, 0⟩) from hX6.out) 4 (.int .i64 (lo + xm))
        have hY7 : Hid (XB (w6.setCell ⟨gB, 4, none⟩ (.int .i64 (lo + xm))) gR ⟨ByteArray.empty, 0, 0, 0, 0⟩) := CB.farD (show CB 56 w6 gR (In.enc ⟨ByteArray.empty, 0, 0, 0, 0⟩) from hY6.out) (p := ⟨gB, 4, none⟩) (by show gB ≠ gR; have := hBR.out; omega) _
        have hC7 : Hid (Cur (w6.setCell ⟨gB, 4, none⟩ (.int .i64 (lo + xm))) g (K + 6)) := hC6.out.far (p := ⟨gB, 4, none⟩) (by show g < gB; have := hgg.out; have := hBR.out; omega) _
        have hH7 : Hid (Chg g (g + 1) w (w6.setCell ⟨gB, 4, none⟩ (.int .i64 (lo + xm)))) := hH6.out.newD (p := ⟨gB, 4, none⟩) (by show w.heap.size ≤ gB; have := hRw.out; have := hBR.out; omega) _
        clear hX6 hY6 hC6 hH6
        go_wp2_with (fail)
        with_reducible refine (HW.out (K + 6) (w6.setCell ⟨gB, 4, none⟩ (.int .i64 (lo + xm))) (by omega) hC7.out).mono ?_
        rintro e w8 ⟨xw, rfl, _, hcu, hch⟩
        have hX8 := Lib.hid (CB.chgD (show CB 56 (w6.setCell ⟨gB, 4, none⟩ (.int .i64 (lo + xm))) gB (In.enc ⟨s, d, 0, 0, (lo + xm)⟩) from hX7.out) hch (.inr (by have := hgg.out; have := hBR.out; omega)))
        have hY8 := Lib.hid (CB.chgD (show CB 56 (w6.setCell ⟨gB, 4, none⟩ (.int .i64 (lo + xm))) gR (In.enc ⟨ByteArray.empty, 0, 0, 0, 0⟩) from hY7.out) hch (.inr (by have := hgg.out; omega)))
        have hC8 := Lib.hid hcu
        have hH8 := Lib.hid (hH7.out.trans hch)
        clear hcu hch hX7 hY7 hC7 hH7
        have f9 := CB.frozen (show CB 56 w8 gB (In.enc ⟨s, d, 0, 0, (lo + xm)⟩) from hX8.out) 4
        have o9 := (CB.cell (show CB 56 w8 gB (In.enc ⟨s, d, 0, 0, (lo + xm)⟩) from hX8.out) 4).trans (rfl : _ = some (Value.int .i64 ((lo + xm))))
        have hX9 : Hid (XB (w8.setCell ⟨gB, 4, none⟩ (.int .i64 (xw))) gB ⟨s, d, 0, 0, (xw)⟩) := CB.set (show CB 56 w8 gB (In.enc ⟨s, d, 0, 0, (lo + xm)⟩) from hX8.out) 4 (.int .i64 (xw))
        have hY9 : Hid (XB (w8.setCell ⟨gB, 4, none⟩ (.int .i64 (xw))) gR ⟨ByteArray.empty, 0, 0, 0, 0⟩) := CB.farD (show CB 56 w8 gR (In.enc ⟨ByteArray.empty, 0, 0, 0, 0⟩) from hY8.out) (p := ⟨gB, 4, none⟩) (by show gB ≠ gR; have := hBR.out; omega) _
        have hC9 : Hid (Cur (w8.setCell ⟨gB, 4, none⟩ (.int .i64 (xw))) g (K + 10)) := hC8.out.far (p := ⟨gB, 4, none⟩) (by show g < gB; have := hgg.out; have := hBR.out; omega) _
        have hH9 : Hid (Chg g (g + 1) w (w8.setCell ⟨gB, 4, none⟩ (.int .i64 (xw)))) := hH8.out.newD (p := ⟨gB, 4, none⟩) (by show w.heap.size ≤ gB; have := hRw.out; have := hBR.out; omega) _
        clear hX8 hY8 hC8 hH8
        obtain ⟨x0, x1, x2, x3, x4⟩ := XB.cells hX9.out
        simp only at x0 x1 x2 x3 x4
        have p0 := CB.frozen (show CB 56 (w8.setCell ⟨gB, 4, none⟩ (.int .i64 (xw))) gR (In.enc ⟨ByteArray.empty, 0, 0, 0, 0⟩) from hY9.out) 0
        have p1 := CB.frozen (show CB 56 (w8.setCell ⟨gB, 4, none⟩ (.int .i64 (xw))) gR (In.enc ⟨ByteArray.empty, 0, 0, 0, 0⟩) from hY9.out) 1
        have p2 := CB.frozen (show CB 56 (w8.setCell ⟨gB, 4, none⟩ (.int .i64 (xw))) gR (In.enc ⟨ByteArray.empty, 0, 0, 0, 0⟩) from hY9.out) 2
        have p3 := CB.frozen (show CB 56 (w8.setCell ⟨gB, 4, none⟩ (.int .i64 (xw))) gR (In.enc ⟨ByteArray.empty, 0, 0, 0, 0⟩) from hY9.out) 3
        have p4 := CB.frozen (show CB 56 (w8.setCell ⟨gB, 4, none⟩ (.int .i64 (xw))) gR (In.enc ⟨ByteArray.empty, 0, 0, 0, 0⟩) from hY9.out) 4
        obtain ⟨y0, y1, y2, y3, y4⟩ := XB.cells hY9.out
        simp only at y0 y1 y2 y3 y4
        have hne : ¬ gR = gB := by have := hBR.out; omega
        have hne2 : ¬ gB = gR := by have := hBR.out; omega
        go_wp2
        refine bodyPost_ret (v := .agg #[.string s, .int .i64 (d), .int .i64 (0), .int .i64 (0), .int .i64 ((xw))]) ?_ rfl ⟨⟨s, d, 0, 0, (xw)⟩, rfl, hsz.out, ?_, ?_⟩
        · obtain ⟨z0, z1, z2, z3, z4⟩ := (XB.five' ⟨s, d, 0, 0, (xw)⟩ hY9.out).cells
          generalize (World.setCell _ ⟨gR, 4, none⟩ _) = W at z0 z1 z2 z3 z4 ⊢
          simp only at z0 z1 z2 z3 z4
          simp [results, Try.results234, go_sem, z0, z1, z2, z3, z4]
        · have hcu := hC9.out.more (show K + 10 ≤ K + 14 by omega)
          exact ((((hcu.far (p := ⟨gR, 0, none⟩) hgg.out _).far (p := ⟨gR, 1, none⟩) hgg.out _).far (p := ⟨gR, 2, none⟩) hgg.out _).far (p := ⟨gR, 3, none⟩) hgg.out _).far (p := ⟨gR, 4, none⟩) hgg.out _
        · exact ((((hH9.out.newD (p := ⟨gR, 0, none⟩) hRw.out _).newD (p := ⟨gR, 1, none⟩) hRw.out _).newD (p := ⟨gR, 2, none⟩) hRw.out _).newD (p := ⟨gR, 3, none⟩) hRw.out _).newD (p := ⟨gR, 4, none⟩) hRw.out _
      · have h63' := Lib.hid h63
        clear h63
        rw [hm2]
        have hs1 : IntKind.i64.wrap (hi - lo) = hi - lo := IntWalk.i64_in _ (by omega)
        have hs2 : IntKind.i64.wrap (hi - lo + 1) = hi - lo + 1 := IntWalk.i64_in _ (by omega)
        have hs0 : (hi == 63) = false := by have := h63'.out; simpa using this
        go_wp2_with (fail)
        with_reducible refine (HP.out (K + 4) (hi - lo + 1) w5 (by omega) (by omega) hC5.out).mono ?_
        rintro e w6 ⟨xm, rfl, hxm, hcu, hch⟩
        have hX6 := Lib.hid (CB.chgD (show CB 56 w5 gB (In.enc ⟨s, d, 0, 0, 0⟩) from hX5.out) hch (.inr (by have := hgg.out; have := hBR.out; omega)))
        have hY6 := Lib.hid (CB.chgD (show CB 56 w5 gR (In.enc ⟨ByteArray.empty, 0, 0, 0, 0⟩) from hY5.out) hch (.inr (by have := hgg.out; omega)))
        have hC6 := Lib.hid hcu
        have hH6 := Lib.hid (hH5.out.trans hch)
        clear hcu hch hX5 hY5 hC5 hH5
        have hs3 : IntKind.i64.wrap (lo + xm) = lo + xm := IntWalk.i64_in _ (by omega)
        have f7 := CB.frozen (show CB 56 w6 gB (In.enc ⟨s, d, 0, 0, 0⟩) from hX6.out) 4
        have o7 := (CB.cell (show CB 56 w6 gB (In.enc ⟨s, d, 0, 0, 0⟩) from hX6.out) 4).trans (rfl : _ = some (Value.int .i64 (0)))
        have hX7 : Hid (XB (w6.setCell ⟨gB, 4, none⟩ (.int .i64 (lo + xm))) gB ⟨s, d, 0, 0, (lo + xm)⟩) := CB.set (show CB 56 w6 gB (In.enc ⟨s, d, 0, 0, 0⟩) from hX6.out) 4 (.int .i64 (lo + xm))
        have hY7 : Hid (XB (w6.setCell ⟨gB, 4, none⟩ (.int .i64 (lo + xm))) gR ⟨ByteArray.empty, 0, 0, 0, 0⟩) := CB.farD (show CB 56 w6 gR (In.enc ⟨ByteArray.empty, 0, 0, 0, 0⟩) from hY6.out) (p := ⟨gB, 4, none⟩) (by show gB ≠ gR; have := hBR.out; omega) _
        have hC7 : Hid (Cur (w6.setCell ⟨gB, 4, none⟩ (.int .i64 (lo + xm))) g (K + 6)) := hC6.out.far (p := ⟨gB, 4, none⟩) (by show g < gB; have := hgg.out; have := hBR.out; omega) _
        have hH7 : Hid (Chg g (g + 1) w (w6.setCell ⟨gB, 4, none⟩ (.int .i64 (lo + xm)))) := hH6.out.newD (p := ⟨gB, 4, none⟩) (by show w.heap.size ≤ gB; have := hRw.out; have := hBR.out; omega) _
        clear hX6 hY6 hC6 hH6
        obtain ⟨x0, x1, x2, x3, x4⟩ := XB.cells hX7.out
        simp only at x0 x1 x2 x3 x4
        have p0 := CB.frozen (show CB 56 (w6.setCell ⟨gB, 4, none⟩ (.int .i64 (lo + xm))) gR (In.enc ⟨ByteArray.empty, 0, 0, 0, 0⟩) from hY7.out) 0
        have p1 := CB.frozen (show CB 56 (w6.setCell ⟨gB, 4, none⟩ (.int .i64 (lo + xm))) gR (In.enc ⟨ByteArray.empty, 0, 0, 0, 0⟩) from hY7.out) 1
        have p2 := CB.frozen (show CB 56 (w6.setCell ⟨gB, 4, none⟩ (.int .i64 (lo + xm))) gR (In.enc ⟨ByteArray.empty, 0, 0, 0, 0⟩) from hY7.out) 2
        have p3 := CB.frozen (show CB 56 (w6.setCell ⟨gB, 4, none⟩ (.int .i64 (lo + xm))) gR (In.enc ⟨ByteArray.empty, 0, 0, 0, 0⟩) from hY7.out) 3
        have p4 := CB.frozen (show CB 56 (w6.setCell ⟨gB, 4, none⟩ (.int .i64 (lo + xm))) gR (In.enc ⟨ByteArray.empty, 0, 0, 0, 0⟩) from hY7.out) 4
        obtain ⟨y0, y1, y2, y3, y4⟩ := XB.cells hY7.out
        simp only at y0 y1 y2 y3 y4
        have hne : ¬ gR = gB := by have := hBR.out; omega
        have hne2 : ¬ gB = gR := by have := hBR.out; omega
        go_wp2
        refine bodyPost_ret (v := .agg #[.string s, .int .i64 (d), .int .i64 (0), .int .i64 (0), .int .i64 ((lo + xm))]) ?_ rfl ⟨⟨s, d, 0, 0, (lo + xm)⟩, rfl, hsz.out, ?_, ?_⟩
        · obtain ⟨z0, z1, z2, z3, z4⟩ := (XB.five' ⟨s, d, 0, 0, (lo + xm)⟩ hY7.out).cells
          generalize (World.setCell _ ⟨gR, 4, none⟩ _) = W at z0 z1 z2 z3 z4 ⊢
          simp only at z0 z1 z2 z3 z4
          simp [results, Try.results234, go_sem, z0, z1, z2, z3, z4]
        · have hcu := hC7.out.more (show K + 6 ≤ K + 14 by omega)
          exact ((((hcu.far (p := ⟨gR, 0, none⟩) hgg.out _).far (p := ⟨gR, 1, none⟩) hgg.out _).far (p := ⟨gR, 2, none⟩) hgg.out _).far (p := ⟨gR, 3, none⟩) hgg.out _).far (p := ⟨gR, 4, none⟩) hgg.out _
        · exact ((((hH7.out.newD (p := ⟨gR, 0, none⟩) hRw.out _).newD (p := ⟨gR, 1, none⟩) hRw.out _).newD (p := ⟨gR, 2, none⟩) hRw.out _).newD (p := ⟨gR, 3, none⟩) hRw.out _).newD (p := ⟨gR, 4, none⟩) hRw.out _
    · have hm2 : decide (0 < hi) = false := decide_eq_false hm
      rw [hm2]
      obtain ⟨x0, x1, x2, x3, x4⟩ := XB.cells hX5.out
      simp only at x0 x1 x2 x3 x4
      have p0 := CB.frozen (show CB 56 w5 gR (In.enc ⟨ByteArray.empty, 0, 0, 0, 0⟩) from hY5.out) 0
      have p1 := CB.frozen (show CB 56 w5 gR (In.enc ⟨ByteArray.empty, 0, 0, 0, 0⟩) from hY5.out) 1
      have p2 := CB.frozen (show CB 56 w5 gR (In.enc ⟨ByteArray.empty, 0, 0, 0, 0⟩) from hY5.out) 2
      have p3 := CB.frozen (show CB 56 w5 gR (In.enc ⟨ByteArray.empty, 0, 0, 0, 0⟩) from hY5.out) 3
      have p4 := CB.frozen (show CB 56 w5 gR (In.enc ⟨ByteArray.empty, 0, 0, 0, 0⟩) from hY5.out) 4
      obtain ⟨y0, y1, y2, y3, y4⟩ := XB.cells hY5.out
      simp only at y0 y1 y2 y3 y4
      have hne : ¬ gR = gB := by have := hBR.out; omega
      have hne2 : ¬ gB = gR := by have := hBR.out; omega
      go_wp2
      refine bodyPost_ret (v := .agg #[.string s, .int .i64 (d), .int .i64 (0), .int .i64 (0), .int .i64 (0)]) ?_ rfl ⟨⟨s, d, 0, 0, 0⟩, rfl, hsz.out, ?_, ?_⟩
      · obtain ⟨z0, z1, z2, z3, z4⟩ := (XB.five' ⟨s, d, 0, 0, 0⟩ hY5.out).cells
        generalize (World.setCell _ ⟨gR, 4, none⟩ _) = W at z0 z1 z2 z3 z4 ⊢
        simp only at z0 z1 z2 z3 z4
        simp [results, Try.results234, go_sem, z0, z1, z2, z3, z4]
      · have hcu := hC5.out.more (show K + 4 ≤ K + 14 by omega)
        exact ((((hcu.far (p := ⟨gR, 0, none⟩) hgg.out _).far (p := ⟨gR, 1, none⟩) hgg.out _).far (p := ⟨gR, 2, none⟩) hgg.out _).far (p := ⟨gR, 3, none⟩) hgg.out _).far (p := ⟨gR, 4, none⟩) hgg.out _
      · exact ((((hH5.out.newD (p := ⟨gR, 0, none⟩) hRw.out _).newD (p := ⟨gR, 1, none⟩) hRw.out _).newD (p := ⟨gR, 2, none⟩) hRw.out _).newD (p := ⟨gR, 3, none⟩) hRw.out _).newD (p := ⟨gR, 4, none⟩) hRw.out _
  · go_wp2_with (fail)
    generalize w3.alloc (.cells #[.string s, .int .i64 d, .int .i64 0, .int .i64 0, .int .i64 0] 56) = W4 at *
    try rw [eB]
    clear eB
    with_reducible refine (HP.out (K + 4) regs W4 (by omega) (by omega) hC4.out).mono ?_
    rintro e w5 ⟨xb, rfl, _, hcu, hch⟩
    have hX5 := Lib.hid (CB.chgD (show CB 56 W4 gB (In.enc ⟨s, d, 0, 0, 0⟩) from hX4.out) hch (.inr (by have := hgg.out; have := hBR.out; omega)))
    have hY5 := Lib.hid (CB.chgD (show CB 56 W4 gR (In.enc ⟨ByteArray.empty, 0, 0, 0, 0⟩) from hY4.out) hch (.inr (by have := hgg.out; omega)))
    have hC5 := Lib.hid hcu
    have hH5 := Lib.hid (hH4.out.trans hch)
    clear hcu hch hX4 hY4 hC4 hH4
    have f6 := CB.frozen (show CB 56 w5 gB (In.enc ⟨s, d, 0, 0, 0⟩) from hX5.out) 3
    have o6 := (CB.cell (show CB 56 w5 gB (In.enc ⟨s, d, 0, 0, 0⟩) from hX5.out) 3).trans (rfl : _ = some (Value.int .i64 (0)))
    have hX6 : Hid (XB (w5.setCell ⟨gB, 3, none⟩ (.int .i64 (xb))) gB ⟨s, d, 0, (xb), 0⟩) := CB.set (show CB 56 w5 gB (In.enc ⟨s, d, 0, 0, 0⟩) from hX5.out) 3 (.int .i64 (xb))
    have hY6 : Hid (XB (w5.setCell ⟨gB, 3, none⟩ (.int .i64 (xb))) gR ⟨ByteArray.empty, 0, 0, 0, 0⟩) := CB.farD (show CB 56 w5 gR (In.enc ⟨ByteArray.empty, 0, 0, 0, 0⟩) from hY5.out) (p := ⟨gB, 3, none⟩) (by show gB ≠ gR; have := hBR.out; omega) _
    have hC6 : Hid (Cur (w5.setCell ⟨gB, 3, none⟩ (.int .i64 (xb))) g (K + 6)) := hC5.out.far (p := ⟨gB, 3, none⟩) (by show g < gB; have := hgg.out; have := hBR.out; omega) _
    have hH6 : Hid (Chg g (g + 1) w (w5.setCell ⟨gB, 3, none⟩ (.int .i64 (xb)))) := hH5.out.newD (p := ⟨gB, 3, none⟩) (by show w.heap.size ≤ gB; have := hRw.out; have := hBR.out; omega) _
    clear hX5 hY5 hC5 hH5
    go_wp2_with (fail)
    with_reducible refine (HI.out (w5.setCell ⟨gB, 3, none⟩ (.int .i64 (xb)))).mono ?_
    rintro e w7 ⟨rfl, hbe⟩
    have hX7 := Lib.hid (CB.below (show CB 56 (w5.setCell ⟨gB, 3, none⟩ (.int .i64 (xb))) gB (In.enc ⟨s, d, 0, (xb), 0⟩) from hX6.out) hbe (CB.lt hX6.out))
    have hY7 := Lib.hid (CB.below (show CB 56 (w5.setCell ⟨gB, 3, none⟩ (.int .i64 (xb))) gR (In.enc ⟨ByteArray.empty, 0, 0, 0, 0⟩) from hY6.out) hbe (CB.lt hY6.out))
    have hC7 := Lib.hid (hC6.out.below hbe)
    have hH7 := Lib.hid (hH6.out.trans (Chg.ofBelow hbe))
    clear hbe hX6 hY6 hC6 hH6
    by_cases hm : 0 < hi
    · have hm2 : decide (0 < hi) = true := decide_eq_true hm
      by_cases h63 : hi = 63
      · subst h63
        rw [hm2]
        have hs1 : IntKind.i64.wrap (63 - lo) = 63 - lo := IntWalk.i64_in _ (by omega)
        have hs2 : IntKind.i64.wrap (63 - lo + 1) = 63 - lo + 1 := IntWalk.i64_in _ (by omega)
        go_wp2_with (fail)
        with_reducible refine (HP.out (K + 6) (63 - lo + 1) w7 (by omega) (by omega) hC7.out).mono ?_
        rintro e w8 ⟨xm, rfl, hxm, hcu, hch⟩
        have hX8 := Lib.hid (CB.chgD (show CB 56 w7 gB (In.enc ⟨s, d, 0, (xb), 0⟩) from hX7.out) hch (.inr (by have := hgg.out; have := hBR.out; omega)))
        have hY8 := Lib.hid (CB.chgD (show CB 56 w7 gR (In.enc ⟨ByteArray.empty, 0, 0, 0, 0⟩) from hY7.out) hch (.inr (by have := hgg.out; omega)))
        have hC8 := Lib.hid hcu
        have hH8 := Lib.hid (hH7.out.trans hch)
        clear hcu hch hX7 hY7 hC7 hH7
        have hs3 : IntKind.i64.wrap (lo + xm) = lo + xm := IntWalk.i64_in _ (by omega)
        have f9 := CB.frozen (show CB 56 w8 gB (In.enc ⟨s, d, 0, (xb), 0⟩) from hX8.out) 4
        have o9 := (CB.cell (show CB 56 w8 gB (In.enc ⟨s, d, 0, (xb), 0⟩) from hX8.out) 4).trans (rfl : _ = some (Value.int .i64 (0)))
        have hX9 : Hid (XB (w8.setCell ⟨gB, 4, none⟩ (.int .i64 (lo + xm))) gB ⟨s, d, 0, (xb), (lo + xm)⟩) := CB.set (show CB 56 w8 gB (In.enc ⟨s, d, 0, (xb), 0⟩) from hX8.out) 4 (.int .i64 (lo + xm))
        have hY9 : Hid (XB (w8.setCell ⟨gB, 4, none⟩ (.int .i64 (lo + xm))) gR ⟨ByteArray.empty, 0, 0, 0, 0⟩) := CB.farD (show CB 56 w8 gR (In.enc ⟨ByteArray.empty, 0, 0, 0, 0⟩) from hY8.out) (p := ⟨gB, 4, none⟩) (by show gB ≠ gR; have := hBR.out; omega) _
        have hC9 : Hid (Cur (w8.setCell ⟨gB, 4, none⟩ (.int .i64 (lo + xm))) g (K + 8)) := hC8.out.far (p := ⟨gB, 4, none⟩) (by show g < gB; have := hgg.out; have := hBR.out; omega) _
        have hH9 : Hid (Chg g (g + 1) w (w8.setCell ⟨gB, 4, none⟩ (.int .i64 (lo + xm)))) := hH8.out.newD (p := ⟨gB, 4, none⟩) (by show w.heap.size ≤ gB; have := hRw.out; have := hBR.out; omega) _
        clear hX8 hY8 hC8 hH8
        go_wp2_with (fail)
        with_reducible refine (HW.out (K + 8) (w8.setCell ⟨gB, 4, none⟩ (.int .i64 (lo + xm))) (by omega) hC9.out).mono ?_
        rintro e w10 ⟨xw, rfl, _, hcu, hch⟩
        have hX10 := Lib.hid (CB.chgD (show CB 56 (w8.setCell ⟨gB, 4, none⟩ (.int .i64 (lo + xm))) gB (In.enc ⟨s, d, 0, (xb), (lo + xm)⟩) from hX9.out) hch (.inr (by have := hgg.out; have := hBR.out; omega)))
        have hY10 := Lib.hid (CB.chgD (show CB 56 (w8.setCell ⟨gB, 4, none⟩ (.int .i64 (lo + xm))) gR (In.enc ⟨ByteArray.empty, 0, 0, 0, 0⟩) from hY9.out) hch (.inr (by have := hgg.out; omega)))
        have hC10 := Lib.hid hcu
        have hH10 := Lib.hid (hH9.out.trans hch)
        clear hcu hch hX9 hY9 hC9 hH9
        have f11 := CB.frozen (show CB 56 w10 gB (In.enc ⟨s, d, 0, (xb), (lo + xm)⟩) from hX10.out) 4
        have o11 := (CB.cell (show CB 56 w10 gB (In.enc ⟨s, d, 0, (xb), (lo + xm)⟩) from hX10.out) 4).trans (rfl : _ = some (Value.int .i64 ((lo + xm))))
        have hX11 : Hid (XB (w10.setCell ⟨gB, 4, none⟩ (.int .i64 (xw))) gB ⟨s, d, 0, (xb), (xw)⟩) := CB.set (show CB 56 w10 gB (In.enc ⟨s, d, 0, (xb), (lo + xm)⟩) from hX10.out) 4 (.int .i64 (xw))
        have hY11 : Hid (XB (w10.setCell ⟨gB, 4, none⟩ (.int .i64 (xw))) gR ⟨ByteArray.empty, 0, 0, 0, 0⟩) := CB.farD (show CB 56 w10 gR (In.enc ⟨ByteArray.empty, 0, 0, 0, 0⟩) from hY10.out) (p := ⟨gB, 4, none⟩) (by show gB ≠ gR; have := hBR.out; omega) _
        have hC11 : Hid (Cur (w10.setCell ⟨gB, 4, none⟩ (.int .i64 (xw))) g (K + 12)) := hC10.out.far (p := ⟨gB, 4, none⟩) (by show g < gB; have := hgg.out; have := hBR.out; omega) _
        have hH11 : Hid (Chg g (g + 1) w (w10.setCell ⟨gB, 4, none⟩ (.int .i64 (xw)))) := hH10.out.newD (p := ⟨gB, 4, none⟩) (by show w.heap.size ≤ gB; have := hRw.out; have := hBR.out; omega) _
        clear hX10 hY10 hC10 hH10
        obtain ⟨x0, x1, x2, x3, x4⟩ := XB.cells hX11.out
        simp only at x0 x1 x2 x3 x4
        have p0 := CB.frozen (show CB 56 (w10.setCell ⟨gB, 4, none⟩ (.int .i64 (xw))) gR (In.enc ⟨ByteArray.empty, 0, 0, 0, 0⟩) from hY11.out) 0
        have p1 := CB.frozen (show CB 56 (w10.setCell ⟨gB, 4, none⟩ (.int .i64 (xw))) gR (In.enc ⟨ByteArray.empty, 0, 0, 0, 0⟩) from hY11.out) 1
        have p2 := CB.frozen (show CB 56 (w10.setCell ⟨gB, 4, none⟩ (.int .i64 (xw))) gR (In.enc ⟨ByteArray.empty, 0, 0, 0, 0⟩) from hY11.out) 2
        have p3 := CB.frozen (show CB 56 (w10.setCell ⟨gB, 4, none⟩ (.int .i64 (xw))) gR (In.enc ⟨ByteArray.empty, 0, 0, 0, 0⟩) from hY11.out) 3
        have p4 := CB.frozen (show CB 56 (w10.setCell ⟨gB, 4, none⟩ (.int .i64 (xw))) gR (In.enc ⟨ByteArray.empty, 0, 0, 0, 0⟩) from hY11.out) 4
        obtain ⟨y0, y1, y2, y3, y4⟩ := XB.cells hY11.out
        simp only at y0 y1 y2 y3 y4
        have hne : ¬ gR = gB := by have := hBR.out; omega
        have hne2 : ¬ gB = gR := by have := hBR.out; omega
        go_wp2
        refine bodyPost_ret (v := .agg #[.string s, .int .i64 (d), .int .i64 (0), .int .i64 ((xb)), .int .i64 ((xw))]) ?_ rfl ⟨⟨s, d, 0, (xb), (xw)⟩, rfl, hsz.out, ?_, ?_⟩
        · obtain ⟨z0, z1, z2, z3, z4⟩ := (XB.five' ⟨s, d, 0, (xb), (xw)⟩ hY11.out).cells
          generalize (World.setCell _ ⟨gR, 4, none⟩ _) = W at z0 z1 z2 z3 z4 ⊢
          simp only at z0 z1 z2 z3 z4
          simp [results, Try.results234, go_sem, z0, z1, z2, z3, z4]
        · have hcu := hC11.out.more (show K + 12 ≤ K + 14 by omega)
          exact ((((hcu.far (p := ⟨gR, 0, none⟩) hgg.out _).far (p := ⟨gR, 1, none⟩) hgg.out _).far (p := ⟨gR, 2, none⟩) hgg.out _).far (p := ⟨gR, 3, none⟩) hgg.out _).far (p := ⟨gR, 4, none⟩) hgg.out _
        · exact ((((hH11.out.newD (p := ⟨gR, 0, none⟩) hRw.out _).newD (p := ⟨gR, 1, none⟩) hRw.out _).newD (p := ⟨gR, 2, none⟩) hRw.out _).newD (p := ⟨gR, 3, none⟩) hRw.out _).newD (p := ⟨gR, 4, none⟩) hRw.out _
      · have h63' := Lib.hid h63
        clear h63
        rw [hm2]
        have hs1 : IntKind.i64.wrap (hi - lo) = hi - lo := IntWalk.i64_in _ (by omega)
        have hs2 : IntKind.i64.wrap (hi - lo + 1) = hi - lo + 1 := IntWalk.i64_in _ (by omega)
        have hs0 : (hi == 63) = false := by have := h63'.out; simpa using this
        go_wp2_with (fail)
        with_reducible refine (HP.out (K + 6) (hi - lo + 1) w7 (by omega) (by omega) hC7.out).mono ?_
        rintro e w8 ⟨xm, rfl, hxm, hcu, hch⟩
        have hX8 := Lib.hid (CB.chgD (show CB 56 w7 gB (In.enc ⟨s, d, 0, (xb), 0⟩) from hX7.out) hch (.inr (by have := hgg.out; have := hBR.out; omega)))
        have hY8 := Lib.hid (CB.chgD (show CB 56 w7 gR (In.enc ⟨ByteArray.empty, 0, 0, 0, 0⟩) from hY7.out) hch (.inr (by have := hgg.out; omega)))
        have hC8 := Lib.hid hcu
        have hH8 := Lib.hid (hH7.out.trans hch)
        clear hcu hch hX7 hY7 hC7 hH7
        have hs3 : IntKind.i64.wrap (lo + xm) = lo + xm := IntWalk.i64_in _ (by omega)
        have f9 := CB.frozen (show CB 56 w8 gB (In.enc ⟨s, d, 0, (xb), 0⟩) from hX8.out) 4
        have o9 := (CB.cell (show CB 56 w8 gB (In.enc ⟨s, d, 0, (xb), 0⟩) from hX8.out) 4).trans (rfl : _ = some (Value.int .i64 (0)))
        have hX9 : Hid (XB (w8.setCell ⟨gB, 4, none⟩ (.int .i64 (lo + xm))) gB ⟨s, d, 0, (xb), (lo + xm)⟩) := CB.set (show CB 56 w8 gB (In.enc ⟨s, d, 0, (xb), 0⟩) from hX8.out) 4 (.int .i64 (lo + xm))
        have hY9 : Hid (XB (w8.setCell ⟨gB, 4, none⟩ (.int .i64 (lo + xm))) gR ⟨ByteArray.empty, 0, 0, 0, 0⟩) := CB.farD (show CB 56 w8 gR (In.enc ⟨ByteArray.empty, 0, 0, 0, 0⟩) from hY8.out) (p := ⟨gB, 4, none⟩) (by show gB ≠ gR; have := hBR.out; omega) _
        have hC9 : Hid (Cur (w8.setCell ⟨gB, 4, none⟩ (.int .i64 (lo + xm))) g (K + 8)) := hC8.out.far (p := ⟨gB, 4, none⟩) (by show g < gB; have := hgg.out; have := hBR.out; omega) _
        have hH9 : Hid (Chg g (g + 1) w (w8.setCell ⟨gB, 4, none⟩ (.int .i64 (lo + xm)))) := hH8.out.newD (p := ⟨gB, 4, none⟩) (by show w.heap.size ≤ gB; have := hRw.out; have := hBR.out; omega) _
        clear hX8 hY8 hC8 hH8
        obtain ⟨x0, x1, x2, x3, x4⟩ := XB.cells hX9.out
        simp only at x0 x1 x2 x3 x4
        have p0 := CB.frozen (show CB 56 (w8.setCell ⟨gB, 4, none⟩ (.int .i64 (lo + xm))) gR (In.enc ⟨ByteArray.empty, 0, 0, 0, 0⟩) from hY9.out) 0
        have p1 := CB.frozen (show CB 56 (w8.setCell ⟨gB, 4, none⟩ (.int .i64 (lo + xm))) gR (In.enc ⟨ByteArray.empty, 0, 0, 0, 0⟩) from hY9.out) 1
        have p2 := CB.frozen (show CB 56 (w8.setCell ⟨gB, 4, none⟩ (.int .i64 (lo + xm))) gR (In.enc ⟨ByteArray.empty, 0, 0, 0, 0⟩) from hY9.out) 2
        have p3 := CB.frozen (show CB 56 (w8.setCell ⟨gB, 4, none⟩ (.int .i64 (lo + xm))) gR (In.enc ⟨ByteArray.empty, 0, 0, 0, 0⟩) from hY9.out) 3
        have p4 := CB.frozen (show CB 56 (w8.setCell ⟨gB, 4, none⟩ (.int .i64 (lo + xm))) gR (In.enc ⟨ByteArray.empty, 0, 0, 0, 0⟩) from hY9.out) 4
        obtain ⟨y0, y1, y2, y3, y4⟩ := XB.cells hY9.out
        simp only at y0 y1 y2 y3 y4
        have hne : ¬ gR = gB := by have := hBR.out; omega
        have hne2 : ¬ gB = gR := by have := hBR.out; omega
        go_wp2
        refine bodyPost_ret (v := .agg #[.string s, .int .i64 (d), .int .i64 (0), .int .i64 ((xb)), .int .i64 ((lo + xm))]) ?_ rfl ⟨⟨s, d, 0, (xb), (lo + xm)⟩, rfl, hsz.out, ?_, ?_⟩
        · obtain ⟨z0, z1, z2, z3, z4⟩ := (XB.five' ⟨s, d, 0, (xb), (lo + xm)⟩ hY9.out).cells
          generalize (World.setCell _ ⟨gR, 4, none⟩ _) = W at z0 z1 z2 z3 z4 ⊢
          simp only at z0 z1 z2 z3 z4
          simp [results, Try.results234, go_sem, z0, z1, z2, z3, z4]
        · have hcu := hC9.out.more (show K + 8 ≤ K + 14 by omega)
          exact ((((hcu.far (p := ⟨gR, 0, none⟩) hgg.out _).far (p := ⟨gR, 1, none⟩) hgg.out _).far (p := ⟨gR, 2, none⟩) hgg.out _).far (p := ⟨gR, 3, none⟩) hgg.out _).far (p := ⟨gR, 4, none⟩) hgg.out _
        · exact ((((hH9.out.newD (p := ⟨gR, 0, none⟩) hRw.out _).newD (p := ⟨gR, 1, none⟩) hRw.out _).newD (p := ⟨gR, 2, none⟩) hRw.out _).newD (p := ⟨gR, 3, none⟩) hRw.out _).newD (p := ⟨gR, 4, none⟩) hRw.out _
    · have hm2 : decide (0 < hi) = false := decide_eq_false hm
      rw [hm2]
      obtain ⟨x0, x1, x2, x3, x4⟩ := XB.cells hX7.out
      simp only at x0 x1 x2 x3 x4
      have p0 := CB.frozen (show CB 56 w7 gR (In.enc ⟨ByteArray.empty, 0, 0, 0, 0⟩) from hY7.out) 0
      have p1 := CB.frozen (show CB 56 w7 gR (In.enc ⟨ByteArray.empty, 0, 0, 0, 0⟩) from hY7.out) 1
      have p2 := CB.frozen (show CB 56 w7 gR (In.enc ⟨ByteArray.empty, 0, 0, 0, 0⟩) from hY7.out) 2
      have p3 := CB.frozen (show CB 56 w7 gR (In.enc ⟨ByteArray.empty, 0, 0, 0, 0⟩) from hY7.out) 3
      have p4 := CB.frozen (show CB 56 w7 gR (In.enc ⟨ByteArray.empty, 0, 0, 0, 0⟩) from hY7.out) 4
      obtain ⟨y0, y1, y2, y3, y4⟩ := XB.cells hY7.out
      simp only at y0 y1 y2 y3 y4
      have hne : ¬ gR = gB := by have := hBR.out; omega
      have hne2 : ¬ gB = gR := by have := hBR.out; omega
      go_wp2
      refine bodyPost_ret (v := .agg #[.string s, .int .i64 (d), .int .i64 (0), .int .i64 ((xb)), .int .i64 (0)]) ?_ rfl ⟨⟨s, d, 0, (xb), 0⟩, rfl, hsz.out, ?_, ?_⟩
      · obtain ⟨z0, z1, z2, z3, z4⟩ := (XB.five' ⟨s, d, 0, (xb), 0⟩ hY7.out).cells
        generalize (World.setCell _ ⟨gR, 4, none⟩ _) = W at z0 z1 z2 z3 z4 ⊢
        simp only at z0 z1 z2 z3 z4
        simp [results, Try.results234, go_sem, z0, z1, z2, z3, z4]
      · have hcu := hC7.out.more (show K + 6 ≤ K + 14 by omega)
        exact ((((hcu.far (p := ⟨gR, 0, none⟩) hgg.out _).far (p := ⟨gR, 1, none⟩) hgg.out _).far (p := ⟨gR, 2, none⟩) hgg.out _).far (p := ⟨gR, 3, none⟩) hgg.out _).far (p := ⟨gR, 4, none⟩) hgg.out _
      · exact ((((hH7.out.newD (p := ⟨gR, 0, none⟩) hRw.out _).newD (p := ⟨gR, 1, none⟩) hRw.out _).newD (p := ⟨gR, 2, none⟩) hRw.out _).newD (p := ⟨gR, 3, none⟩) hRw.out _).newD (p := ⟨gR, 4, none⟩) hRw.out _
  · go_wp2_with (fail)
    generalize w3.alloc (.cells #[.string s, .int .i64 d, .int .i64 0, .int .i64 0, .int .i64 0] 56) = W4 at *
    try rw [eB]
    clear eB
    with_reducible refine (HP.out (K + 4) regs W4 (by omega) (by omega) hC4.out).mono ?_
    rintro e w5 ⟨xa, rfl, _, hcu, hch⟩
    have hX5 := Lib.hid (CB.chgD (show CB 56 W4 gB (In.enc ⟨s, d, 0, 0, 0⟩) from hX4.out) hch (.inr (by have := hgg.out; have := hBR.out; omega)))
    have hY5 := Lib.hid (CB.chgD (show CB 56 W4 gR (In.enc ⟨ByteArray.empty, 0, 0, 0, 0⟩) from hY4.out) hch (.inr (by have := hgg.out; omega)))
    have hC5 := Lib.hid hcu
    have hH5 := Lib.hid (hH4.out.trans hch)
    clear hcu hch hX4 hY4 hC4 hH4
    have f6 := CB.frozen (show CB 56 w5 gB (In.enc ⟨s, d, 0, 0, 0⟩) from hX5.out) 2
    have o6 := (CB.cell (show CB 56 w5 gB (In.enc ⟨s, d, 0, 0, 0⟩) from hX5.out) 2).trans (rfl : _ = some (Value.int .i64 (0)))
    have hX6 : Hid (XB (w5.setCell ⟨gB, 2, none⟩ (.int .i64 (xa))) gB ⟨s, d, (xa), 0, 0⟩) := CB.set (show CB 56 w5 gB (In.enc ⟨s, d, 0, 0, 0⟩) from hX5.out) 2 (.int .i64 (xa))
    have hY6 : Hid (XB (w5.setCell ⟨gB, 2, none⟩ (.int .i64 (xa))) gR ⟨ByteArray.empty, 0, 0, 0, 0⟩) := CB.farD (show CB 56 w5 gR (In.enc ⟨ByteArray.empty, 0, 0, 0, 0⟩) from hY5.out) (p := ⟨gB, 2, none⟩) (by show gB ≠ gR; have := hBR.out; omega) _
    have hC6 : Hid (Cur (w5.setCell ⟨gB, 2, none⟩ (.int .i64 (xa))) g (K + 6)) := hC5.out.far (p := ⟨gB, 2, none⟩) (by show g < gB; have := hgg.out; have := hBR.out; omega) _
    have hH6 : Hid (Chg g (g + 1) w (w5.setCell ⟨gB, 2, none⟩ (.int .i64 (xa)))) := hH5.out.newD (p := ⟨gB, 2, none⟩) (by show w.heap.size ≤ gB; have := hRw.out; have := hBR.out; omega) _
    clear hX5 hY5 hC5 hH5
    go_wp2_with (fail)
    with_reducible refine (HI.out (w5.setCell ⟨gB, 2, none⟩ (.int .i64 (xa)))).mono ?_
    rintro e w7 ⟨rfl, hbe⟩
    have hX7 := Lib.hid (CB.below (show CB 56 (w5.setCell ⟨gB, 2, none⟩ (.int .i64 (xa))) gB (In.enc ⟨s, d, (xa), 0, 0⟩) from hX6.out) hbe (CB.lt hX6.out))
    have hY7 := Lib.hid (CB.below (show CB 56 (w5.setCell ⟨gB, 2, none⟩ (.int .i64 (xa))) gR (In.enc ⟨ByteArray.empty, 0, 0, 0, 0⟩) from hY6.out) hbe (CB.lt hY6.out))
    have hC7 := Lib.hid (hC6.out.below hbe)
    have hH7 := Lib.hid (hH6.out.trans (Chg.ofBelow hbe))
    clear hbe hX6 hY6 hC6 hH6
    by_cases hm : 0 < hi
    · have hm2 : decide (0 < hi) = true := decide_eq_true hm
      by_cases h63 : hi = 63
      · subst h63
        rw [hm2]
        have hs1 : IntKind.i64.wrap (63 - lo) = 63 - lo := IntWalk.i64_in _ (by omega)
        have hs2 : IntKind.i64.wrap (63 - lo + 1) = 63 - lo + 1 := IntWalk.i64_in _ (by omega)
        go_wp2_with (fail)
        with_reducible refine (HP.out (K + 6) (63 - lo + 1) w7 (by omega) (by omega) hC7.out).mono ?_
        rintro e w8 ⟨xm, rfl, hxm, hcu, hch⟩
        have hX8 := Lib.hid (CB.chgD (show CB 56 w7 gB (In.enc ⟨s, d, (xa), 0, 0⟩) from hX7.out) hch (.inr (by have := hgg.out; have := hBR.out; omega)))
        have hY8 := Lib.hid (CB.chgD (show CB 56 w7 gR (In.enc ⟨ByteArray.empty, 0, 0, 0, 0⟩) from hY7.out) hch (.inr (by have := hgg.out; omega)))
        have hC8 := Lib.hid hcu
        have hH8 := Lib.hid (hH7.out.trans hch)
        clear hcu hch hX7 hY7 hC7 hH7
        have hs3 : IntKind.i64.wrap (lo + xm) = lo + xm := IntWalk.i64_in _ (by omega)
        have f9 := CB.frozen (show CB 56 w8 gB (In.enc ⟨s, d, (xa), 0, 0⟩) from hX8.out) 4
        have o9 := (CB.cell (show CB 56 w8 gB (In.enc ⟨s, d, (xa), 0, 0⟩) from hX8.out) 4).trans (rfl : _ = some (Value.int .i64 (0)))
        have hX9 : Hid (XB (w8.setCell ⟨gB, 4, none⟩ (.int .i64 (lo + xm))) gB ⟨s, d, (xa), 0, (lo + xm)⟩) := CB.set (show CB 56 w8 gB (In.enc ⟨s, d, (xa), 0, 0⟩) from hX8.out) 4 (.int .i64 (lo + xm))
        have hY9 : Hid (XB (w8.setCell ⟨gB, 4, none⟩ (.int .i64 (lo + xm))) gR ⟨ByteArray.empty, 0, 0, 0, 0⟩) := CB.farD (show CB 56 w8 gR (In.enc ⟨ByteArray.empty, 0, 0, 0, 0⟩) from hY8.out) (p := ⟨gB, 4, none⟩) (by show gB ≠ gR; have := hBR.out; omega) _
        have hC9 : Hid (Cur (w8.setCell ⟨gB, 4, none⟩ (.int .i64 (lo + xm))) g (K + 8)) := hC8.out.far (p := ⟨gB, 4, none⟩) (by show g < gB; have := hgg.out; have := hBR.out; omega) _
        have hH9 : Hid (Chg g (g + 1) w (w8.setCell ⟨gB, 4, none⟩ (.int .i64 (lo + xm)))) := hH8.out.newD (p := ⟨gB, 4, none⟩) (by show w.heap.size ≤ gB; have := hRw.out; have := hBR.out; omega) _
        clear hX8 hY8 hC8 hH8
        go_wp2_with (fail)
        with_reducible refine (HW.out (K + 8) (w8.setCell ⟨gB, 4, none⟩ (.int .i64 (lo + xm))) (by omega) hC9.out).mono ?_
        rintro e w10 ⟨xw, rfl, _, hcu, hch⟩
        have hX10 := Lib.hid (CB.chgD (show CB 56 (w8.setCell ⟨gB, 4, none⟩ (.int .i64 (lo + xm))) gB (In.enc ⟨s, d, (xa), 0, (lo + xm)⟩) from hX9.out) hch (.inr (by have := hgg.out; have := hBR.out; omega)))
        have hY10 := Lib.hid (CB.chgD (show CB 56 (w8.setCell ⟨gB, 4, none⟩ (.int .i64 (lo + xm))) gR (In.enc ⟨ByteArray.empty, 0, 0, 0, 0⟩) from hY9.out) hch (.inr (by have := hgg.out; omega)))
        have hC10 := Lib.hid hcu
        have hH10 := Lib.hid (hH9.out.trans hch)
        clear hcu hch hX9 hY9 hC9 hH9
        have f11 := CB.frozen (show CB 56 w10 gB (In.enc ⟨s, d, (xa), 0, (lo + xm)⟩) from hX10.out) 4
        have o11 := (CB.cell (show CB 56 w10 gB (In.enc ⟨s, d, (xa), 0, (lo + xm)⟩) from hX10.out) 4).trans (rfl : _ = some (Value.int .i64 ((lo + xm))))
        have hX11 : Hid (XB (w10.setCell ⟨gB, 4, none⟩ (.int .i64 (xw))) gB ⟨s, d, (xa), 0, (xw)⟩) := CB.set (show CB 56 w10 gB (In.enc ⟨s, d, (xa), 0, (lo + xm)⟩) from hX10.out) 4 (.int .i64 (xw))
        have hY11 : Hid (XB (w10.setCell ⟨gB, 4, none⟩ (.int .i64 (xw))) gR ⟨ByteArray.empty, 0, 0, 0, 0⟩) := CB.farD (show CB 56 w10 gR (In.enc ⟨ByteArray.empty, 0, 0, 0, 0⟩) from hY10.out) (p := ⟨gB, 4, none⟩) (by show gB ≠ gR; have := hBR.out; omega) _
        have hC11 : Hid (Cur (w10.setCell ⟨gB, 4, none⟩ (.int .i64 (xw))) g (K + 12)) := hC10.out.far (p := ⟨gB, 4, none⟩) (by show g < gB; have := hgg.out; have := hBR.out; omega) _
        have hH11 : Hid (Chg g (g + 1) w (w10.setCell ⟨gB, 4, none⟩ (.int .i64 (xw)))) := hH10.out.newD (p := ⟨gB, 4, none⟩) (by show w.heap.size ≤ gB; have := hRw.out; have := hBR.out; omega) _
        clear hX10 hY10 hC10 hH10
        obtain ⟨x0, x1, x2, x3, x4⟩ := XB.cells hX11.out
        simp only at x0 x1 x2 x3 x4
        have p0 := CB.frozen (show CB 56 (w10.setCell ⟨gB, 4, none⟩ (.int .i64 (xw))) gR (In.enc ⟨ByteArray.empty, 0, 0, 0, 0⟩) from hY11.out) 0
        have p1 := CB.frozen (show CB 56 (w10.setCell ⟨gB, 4, none⟩ (.int .i64 (xw))) gR (In.enc ⟨ByteArray.empty, 0, 0, 0, 0⟩) from hY11.out) 1
        have p2 := CB.frozen (show CB 56 (w10.setCell ⟨gB, 4, none⟩ (.int .i64 (xw))) gR (In.enc ⟨ByteArray.empty, 0, 0, 0, 0⟩) from hY11.out) 2
        have p3 := CB.frozen (show CB 56 (w10.setCell ⟨gB, 4, none⟩ (.int .i64 (xw))) gR (In.enc ⟨ByteArray.empty, 0, 0, 0, 0⟩) from hY11.out) 3
        have p4 := CB.frozen (show CB 56 (w10.setCell ⟨gB, 4, none⟩ (.int .i64 (xw))) gR (In.enc ⟨ByteArray.empty, 0, 0, 0, 0⟩) from hY11.out) 4
        obtain ⟨y0, y1, y2, y3, y4⟩ := XB.cells hY11.out
        simp only at y0 y1 y2 y3 y4
        have hne : ¬ gR = gB := by have := hBR.out; omega
        have hne2 : ¬ gB = gR := by have := hBR.out; omega
        go_wp2
        refine bodyPost_ret (v := .agg #[.string s, .int .i64 (d), .int .i64 ((xa)), .int .i64 (0), .int .i64 ((xw))]) ?_ rfl ⟨⟨s, d, (xa), 0, (xw)⟩, rfl, hsz.out, ?_, ?_⟩
        · obtain ⟨z0, z1, z2, z3, z4⟩ := (XB.five' ⟨s, d, (xa), 0, (xw)⟩ hY11.out).cells
          generalize (World.setCell _ ⟨gR, 4, none⟩ _) = W at z0 z1 z2 z3 z4 ⊢
          simp only at z0 z1 z2 z3 z4
          simp [results, Try.results234, go_sem, z0, z1, z2, z3, z4]
        · have hcu := hC11.out.more (show K + 12 ≤ K + 14 by omega)
          exact ((((hcu.far (p := ⟨gR, 0, none⟩) hgg.out _).far (p := ⟨gR, 1, none⟩) hgg.out _).far (p := ⟨gR, 2, none⟩) hgg.out _).far (p := ⟨gR, 3, none⟩) hgg.out _).far (p := ⟨gR, 4, none⟩) hgg.out _
        · exact ((((hH11.out.newD (p := ⟨gR, 0, none⟩) hRw.out _).newD (p := ⟨gR, 1, none⟩) hRw.out _).newD (p := ⟨gR, 2, none⟩) hRw.out _).newD (p := ⟨gR, 3, none⟩) hRw.out _).newD (p := ⟨gR, 4, none⟩) hRw.out _
      · have h63' := Lib.hid h63
        clear h63
        rw [hm2]
        have hs1 : IntKind.i64.wrap (hi - lo) = hi - lo := IntWalk.i64_in _ (by omega)
        have hs2 : IntKind.i64.wrap (hi - lo + 1) = hi - lo + 1 := IntWalk.i64_in _ (by omega)
        have hs0 : (hi == 63) = false := by have := h63'.out; simpa using this
        go_wp2_with (fail)
        with_reducible refine (HP.out (K + 6) (hi - lo + 1) w7 (by omega) (by omega) hC7.out).mono ?_
        rintro e w8 ⟨xm, rfl, hxm, hcu, hch⟩
        have hX8 := Lib.hid (CB.chgD (show CB 56 w7 gB (In.enc ⟨s, d, (xa), 0, 0⟩) from hX7.out) hch (.inr (by have := hgg.out; have := hBR.out; omega)))
        have hY8 := Lib.hid (CB.chgD (show CB 56 w7 gR (In.enc ⟨ByteArray.empty, 0, 0, 0, 0⟩) from hY7.out) hch (.inr (by have := hgg.out; omega)))
        have hC8 := Lib.hid hcu
        have hH8 := Lib.hid (hH7.out.trans hch)
        clear hcu hch hX7 hY7 hC7 hH7
        have hs3 : IntKind.i64.wrap (lo + xm) = lo + xm := IntWalk.i64_in _ (by omega)
        have f9 := CB.frozen (show CB 56 w8 gB (In.enc ⟨s, d, (xa), 0, 0⟩) from hX8.out) 4
        have o9 := (CB.cell (show CB 56 w8 gB (In.enc ⟨s, d, (xa), 0, 0⟩) from hX8.out) 4).trans (rfl : _ = some (Value.int .i64 (0)))
        have hX9 : Hid (XB (w8.setCell ⟨gB, 4, none⟩ (.int .i64 (lo + xm))) gB ⟨s, d, (xa), 0, (lo + xm)⟩) := CB.set (show CB 56 w8 gB (In.enc ⟨s, d, (xa), 0, 0⟩) from hX8.out) 4 (.int .i64 (lo + xm))
        have hY9 : Hid (XB (w8.setCell ⟨gB, 4, none⟩ (.int .i64 (lo + xm))) gR ⟨ByteArray.empty, 0, 0, 0, 0⟩) := CB.farD (show CB 56 w8 gR (In.enc ⟨ByteArray.empty, 0, 0, 0, 0⟩) from hY8.out) (p := ⟨gB, 4, none⟩) (by show gB ≠ gR; have := hBR.out; omega) _
        have hC9 : Hid (Cur (w8.setCell ⟨gB, 4, none⟩ (.int .i64 (lo + xm))) g (K + 8)) := hC8.out.far (p := ⟨gB, 4, none⟩) (by show g < gB; have := hgg.out; have := hBR.out; omega) _
        have hH9 : Hid (Chg g (g + 1) w (w8.setCell ⟨gB, 4, none⟩ (.int .i64 (lo + xm)))) := hH8.out.newD (p := ⟨gB, 4, none⟩) (by show w.heap.size ≤ gB; have := hRw.out; have := hBR.out; omega) _
        clear hX8 hY8 hC8 hH8
        obtain ⟨x0, x1, x2, x3, x4⟩ := XB.cells hX9.out
        simp only at x0 x1 x2 x3 x4
        have p0 := CB.frozen (show CB 56 (w8.setCell ⟨gB, 4, none⟩ (.int .i64 (lo + xm))) gR (In.enc ⟨ByteArray.empty, 0, 0, 0, 0⟩) from hY9.out) 0
        have p1 := CB.frozen (show CB 56 (w8.setCell ⟨gB, 4, none⟩ (.int .i64 (lo + xm))) gR (In.enc ⟨ByteArray.empty, 0, 0, 0, 0⟩) from hY9.out) 1
        have p2 := CB.frozen (show CB 56 (w8.setCell ⟨gB, 4, none⟩ (.int .i64 (lo + xm))) gR (In.enc ⟨ByteArray.empty, 0, 0, 0, 0⟩) from hY9.out) 2
        have p3 := CB.frozen (show CB 56 (w8.setCell ⟨gB, 4, none⟩ (.int .i64 (lo + xm))) gR (In.enc ⟨ByteArray.empty, 0, 0, 0, 0⟩) from hY9.out) 3
        have p4 := CB.frozen (show CB 56 (w8.setCell ⟨gB, 4, none⟩ (.int .i64 (lo + xm))) gR (In.enc ⟨ByteArray.empty, 0, 0, 0, 0⟩) from hY9.out) 4
        obtain ⟨y0, y1, y2, y3, y4⟩ := XB.cells hY9.out
        simp only at y0 y1 y2 y3 y4
        have hne : ¬ gR = gB := by have := hBR.out; omega
        have hne2 : ¬ gB = gR := by have := hBR.out; omega
        go_wp2
        refine bodyPost_ret (v := .agg #[.string s, .int .i64 (d), .int .i64 ((xa)), .int .i64 (0), .int .i64 ((lo + xm))]) ?_ rfl ⟨⟨s, d, (xa), 0, (lo + xm)⟩, rfl, hsz.out, ?_, ?_⟩
        · obtain ⟨z0, z1, z2, z3, z4⟩ := (XB.five' ⟨s, d, (xa), 0, (lo + xm)⟩ hY9.out).cells
          generalize (World.setCell _ ⟨gR, 4, none⟩ _) = W at z0 z1 z2 z3 z4 ⊢
          simp only at z0 z1 z2 z3 z4
          simp [results, Try.results234, go_sem, z0, z1, z2, z3, z4]
        · have hcu := hC9.out.more (show K + 8 ≤ K + 14 by omega)
          exact ((((hcu.far (p := ⟨gR, 0, none⟩) hgg.out _).far (p := ⟨gR, 1, none⟩) hgg.out _).far (p := ⟨gR, 2, none⟩) hgg.out _).far (p := ⟨gR, 3, none⟩) hgg.out _).far (p := ⟨gR, 4, none⟩) hgg.out _
        · exact ((((hH9.out.newD (p := ⟨gR, 0, none⟩) hRw.out _).newD (p := ⟨gR, 1, none⟩) hRw.out _).newD (p := ⟨gR, 2, none⟩) hRw.out _).newD (p := ⟨gR, 3, none⟩) hRw.out _).newD (p := ⟨gR, 4, none⟩) hRw.out _
    · have hm2 : decide (0 < hi) = false := decide_eq_false hm
      rw [hm2]
      obtain ⟨x0, x1, x2, x3, x4⟩ := XB.cells hX7.out
      simp only at x0 x1 x2 x3 x4
      have p0 := CB.frozen (show CB 56 w7 gR (In.enc ⟨ByteArray.empty, 0, 0, 0, 0⟩) from hY7.out) 0
      have p1 := CB.frozen (show CB 56 w7 gR (In.enc ⟨ByteArray.empty, 0, 0, 0, 0⟩) from hY7.out) 1
      have p2 := CB.frozen (show CB 56 w7 gR (In.enc ⟨ByteArray.empty, 0, 0, 0, 0⟩) from hY7.out) 2
      have p3 := CB.frozen (show CB 56 w7 gR (In.enc ⟨ByteArray.empty, 0, 0, 0, 0⟩) from hY7.out) 3
      have p4 := CB.frozen (show CB 56 w7 gR (In.enc ⟨ByteArray.empty, 0, 0, 0, 0⟩) from hY7.out) 4
      obtain ⟨y0, y1, y2, y3, y4⟩ := XB.cells hY7.out
      simp only at y0 y1 y2 y3 y4
      have hne : ¬ gR = gB := by have := hBR.out; omega
      have hne2 : ¬ gB = gR := by have := hBR.out; omega
      go_wp2
      refine bodyPost_ret (v := .agg #[.string s, .int .i64 (d), .int .i64 ((xa)), .int .i64 (0), .int .i64 (0)]) ?_ rfl ⟨⟨s, d, (xa), 0, 0⟩, rfl, hsz.out, ?_, ?_⟩
      · obtain ⟨z0, z1, z2, z3, z4⟩ := (XB.five' ⟨s, d, (xa), 0, 0⟩ hY7.out).cells
        generalize (World.setCell _ ⟨gR, 4, none⟩ _) = W at z0 z1 z2 z3 z4 ⊢
        simp only at z0 z1 z2 z3 z4
        simp [results, Try.results234, go_sem, z0, z1, z2, z3, z4]
      · have hcu := hC7.out.more (show K + 6 ≤ K + 14 by omega)
        exact ((((hcu.far (p := ⟨gR, 0, none⟩) hgg.out _).far (p := ⟨gR, 1, none⟩) hgg.out _).far (p := ⟨gR, 2, none⟩) hgg.out _).far (p := ⟨gR, 3, none⟩) hgg.out _).far (p := ⟨gR, 4, none⟩) hgg.out _
      · exact ((((hH7.out.newD (p := ⟨gR, 0, none⟩) hRw.out _).newD (p := ⟨gR, 1, none⟩) hRw.out _).newD (p := ⟨gR, 2, none⟩) hRw.out _).newD (p := ⟨gR, 3, none⟩) hRw.out _).newD (p := ⟨gR, 4, none⟩) hRw.out _
  · go_wp2_with (fail)
    generalize w3.alloc (.cells #[.string s, .int .i64 d, .int .i64 0, .int .i64 0, .int .i64 0] 56) = W4 at *
    try rw [eB]
    clear eB
    with_reducible refine (HP.out (K + 4) regs W4 (by omega) (by omega) hC4.out).mono ?_
    rintro e w5 ⟨xa, rfl, _, hcu, hch⟩
    have hX5 := Lib.hid (CB.chgD (show CB 56 W4 gB (In.enc ⟨s, d, 0, 0, 0⟩) from hX4.out) hch (.inr (by have := hgg.out; have := hBR.out; omega)))
    have hY5 := Lib.hid (CB.chgD (show CB 56 W4 gR (In.enc ⟨ByteArray.empty, 0, 0, 0, 0⟩) from hY4.out) hch (.inr (by have := hgg.out; omega)))
    have hC5 := Lib.hid hcu
    have hH5 := Lib.hid (hH4.out.trans hch)
    clear hcu hch hX4 hY4 hC4 hH4
    have f6 := CB.frozen (show CB 56 w5 gB (In.enc ⟨s, d, 0, 0, 0⟩) from hX5.out) 2
    have o6 := (CB.cell (show CB 56 w5 gB (In.enc ⟨s, d, 0, 0, 0⟩) from hX5.out) 2).trans (rfl : _ = some (Value.int .i64 (0)))
    have hX6 : Hid (XB (w5.setCell ⟨gB, 2, none⟩ (.int .i64 (xa))) gB ⟨s, d, (xa), 0, 0⟩) := CB.set (show CB 56 w5 gB (In.enc ⟨s, d, 0, 0, 0⟩) from hX5.out) 2 (.int .i64 (xa))
    have hY6 : Hid (XB (w5.setCell ⟨gB, 2, none⟩ (.int .i64 (xa))) gR ⟨ByteArray.empty, 0, 0, 0, 0⟩) := CB.farD (show CB 56 w5 gR (In.enc ⟨ByteArray.empty, 0, 0, 0, 0⟩) from hY5.out) (p := ⟨gB, 2, none⟩) (by show gB ≠ gR; have := hBR.out; omega) _
    have hC6 : Hid (Cur (w5.setCell ⟨gB, 2, none⟩ (.int .i64 (xa))) g (K + 6)) := hC5.out.far (p := ⟨gB, 2, none⟩) (by show g < gB; have := hgg.out; have := hBR.out; omega) _
    have hH6 : Hid (Chg g (g + 1) w (w5.setCell ⟨gB, 2, none⟩ (.int .i64 (xa)))) := hH5.out.newD (p := ⟨gB, 2, none⟩) (by show w.heap.size ≤ gB; have := hRw.out; have := hBR.out; omega) _
    clear hX5 hY5 hC5 hH5
    go_wp2_with (fail)
    with_reducible refine (HP.out (K + 6) regs (w5.setCell ⟨gB, 2, none⟩ (.int .i64 (xa))) (by omega) (by omega) hC6.out).mono ?_
    rintro e w7 ⟨xb, rfl, _, hcu, hch⟩
    have hX7 := Lib.hid (CB.chgD (show CB 56 (w5.setCell ⟨gB, 2, none⟩ (.int .i64 (xa))) gB (In.enc ⟨s, d, (xa), 0, 0⟩) from hX6.out) hch (.inr (by have := hgg.out; have := hBR.out; omega)))
    have hY7 := Lib.hid (CB.chgD (show CB 56 (w5.setCell ⟨gB, 2, none⟩ (.int .i64 (xa))) gR (In.enc ⟨ByteArray.empty, 0, 0, 0, 0⟩) from hY6.out) hch (.inr (by have := hgg.out; omega)))
    have hC7 := Lib.hid hcu
    have hH7 := Lib.hid (hH6.out.trans hch)
    clear hcu hch hX6 hY6 hC6 hH6
    have f8 := CB.frozen (show CB 56 w7 gB (In.enc ⟨s, d, (xa), 0, 0⟩) from hX7.out) 3
    have o8 := (CB.cell (show CB 56 w7 gB (In.enc ⟨s, d, (xa), 0, 0⟩) from hX7.out) 3).trans (rfl : _ = some (Value.int .i64 (0)))
    have hX8 : Hid (XB (w7.setCell ⟨gB, 3, none⟩ (.int .i64 (xb))) gB ⟨s, d, (xa), (xb), 0⟩) := CB.set (show CB 56 w7 gB (In.enc ⟨s, d, (xa), 0, 0⟩) from hX7.out) 3 (.int .i64 (xb))
    have hY8 : Hid (XB (w7.setCell ⟨gB, 3, none⟩ (.int .i64 (xb))) gR ⟨ByteArray.empty, 0, 0, 0, 0⟩) := CB.farD (show CB 56 w7 gR (In.enc ⟨ByteArray.empty, 0, 0, 0, 0⟩) from hY7.out) (p := ⟨gB, 3, none⟩) (by show gB ≠ gR; have := hBR.out; omega) _
    have hC8 : Hid (Cur (w7.setCell ⟨gB, 3, none⟩ (.int .i64 (xb))) g (K + 8)) := hC7.out.far (p := ⟨gB, 3, none⟩) (by show g < gB; have := hgg.out; have := hBR.out; omega) _
    have hH8 : Hid (Chg g (g + 1) w (w7.setCell ⟨gB, 3, none⟩ (.int .i64 (xb)))) := hH7.out.newD (p := ⟨gB, 3, none⟩) (by show w.heap.size ≤ gB; have := hRw.out; have := hBR.out; omega) _
    clear hX7 hY7 hC7 hH7
    go_wp2_with (fail)
    with_reducible refine (HI.out (w7.setCell ⟨gB, 3, none⟩ (.int .i64 (xb)))).mono ?_
    rintro e w9 ⟨rfl, hbe⟩
    have hX9 := Lib.hid (CB.below (show CB 56 (w7.setCell ⟨gB, 3, none⟩ (.int .i64 (xb))) gB (In.enc ⟨s, d, (xa), (xb), 0⟩) from hX8.out) hbe (CB.lt hX8.out))
    have hY9 := Lib.hid (CB.below (show CB 56 (w7.setCell ⟨gB, 3, none⟩ (.int .i64 (xb))) gR (In.enc ⟨ByteArray.empty, 0, 0, 0, 0⟩) from hY8.out) hbe (CB.lt hY8.out))
    have hC9 := Lib.hid (hC8.out.below hbe)
    have hH9 := Lib.hid (hH8.out.trans (Chg.ofBelow hbe))
    clear hbe hX8 hY8 hC8 hH8
    by_cases hm : 0 < hi
    · have hm2 : decide (0 < hi) = true := decide_eq_true hm
      by_cases h63 : hi = 63
      · subst h63
        rw [hm2]
        have hs1 : IntKind.i64.wrap (63 - lo) = 63 - lo := IntWalk.i64_in _ (by omega)
        have hs2 : IntKind.i64.wrap (63 - lo + 1) = 63 - lo + 1 := IntWalk.i64_in _ (by omega)
        go_wp2_with (fail)
        with_reducible refine (HP.out (K + 8) (63 - lo + 1) w9 (by omega) (by omega) hC9.out).mono ?_
        rintro e w10 ⟨xm, rfl, hxm, hcu, hch⟩
        have hX10 := Lib.hid (CB.chgD (show CB 56 w9 gB (In.enc ⟨s, d, (xa), (xb), 0⟩) from hX9.out) hch (.inr (by have := hgg.out; have := hBR.out; omega)))
        have hY10 := Lib.hid (CB.chgD (show CB 56 w9 gR (In.enc ⟨ByteArray.empty, 0, 0, 0, 0⟩) from hY9.out) hch (.inr (by have := hgg.out; omega)))
        have hC10 := Lib.hid hcu
        have hH10 := Lib.hid (hH9.out.trans hch)
        clear hcu hch hX9 hY9 hC9 hH9
        have hs3 : IntKind.i64.wrap (lo + xm) = lo + xm := IntWalk.i64_in _ (by omega)
        have f11 := CB.frozen (show CB 56 w10 gB (In.enc ⟨s, d, (xa), (xb), 0⟩) from hX10.out) 4
        have o11 := (CB.cell (show CB 56 w10 gB (In.enc ⟨s, d, (xa), (xb), 0⟩) from hX10.out) 4).trans (rfl : _ = some (Value.int .i64 (0)))
        have hX11 : Hid (XB (w10.setCell ⟨gB, 4, none⟩ (.int .i64 (lo + xm))) gB ⟨s, d, (xa), (xb), (lo + xm)⟩) := CB.set (show CB 56 w10 gB (In.enc ⟨s, d, (xa), (xb), 0⟩) from hX10.out) 4 (.int .i64 (lo + xm))
        have hY11 : Hid (XB (w10.setCell ⟨gB, 4, none⟩ (.int .i64 (lo + xm))) gR ⟨ByteArray.empty, 0, 0, 0, 0⟩) := CB.farD (show CB 56 w10 gR (In.enc ⟨ByteArray.empty, 0, 0, 0, 0⟩) from hY10.out) (p := ⟨gB, 4, none⟩) (by show gB ≠ gR; have := hBR.out; omega) _
        have hC11 : Hid (Cur (w10.setCell ⟨gB, 4, none⟩ (.int .i64 (lo + xm))) g (K + 10)) := hC10.out.far (p := ⟨gB, 4, none⟩) (by show g < gB; have := hgg.out; have := hBR.out; omega) _
        have hH11 : Hid (Chg g (g + 1) w (w10.setCell ⟨gB, 4, none⟩ (.int .i64 (lo + xm)))) := hH10.out.newD (p := ⟨gB, 4, none⟩) (by show w.heap.size ≤ gB; have := hRw.out; have := hBR.out; omega) _
        clear hX10 hY10 hC10 hH10
        go_wp2_with (fail)
        with_reducible refine (HW.out (K + 10) (w10.setCell ⟨gB, 4, none⟩ (.int .i64 (lo + xm))) (by omega) hC11.out).mono ?_
        rintro e w12 ⟨xw, rfl, _, hcu, hch⟩
        have hX12 := Lib.hid (CB.chgD (show CB 56 (w10.setCell ⟨gB, 4, none⟩ (.int .i64 (lo + xm))) gB (In.enc ⟨s, d, (xa), (xb), (lo + xm)⟩) from hX11.out) hch (.inr (by have := hgg.out; have := hBR.out; omega)))
        have hY12 := Lib.hid (CB.chgD (show CB 56 (w10.setCell ⟨gB, 4, none⟩ (.int .i64 (lo + xm))) gR (In.enc ⟨ByteArray.empty, 0, 0, 0, 0⟩) from hY11.out) hch (.inr (by have := hgg.out; omega)))
        have hC12 := Lib.hid hcu
        have hH12 := Lib.hid (hH11.out.trans hch)
        clear hcu hch hX11 hY11 hC11 hH11
        have f13 := CB.frozen (show CB 56 w12 gB (In.enc ⟨s, d, (xa), (xb), (lo + xm)⟩) from hX12.out) 4
        have o13 := (CB.cell (show CB 56 w12 gB (In.enc ⟨s, d, (xa), (xb), (lo + xm)⟩) from hX12.out) 4).trans (rfl : _ = some (Value.int .i64 ((lo + xm))))
        have hX13 : Hid (XB (w12.setCell ⟨gB, 4, none⟩ (.int .i64 (xw))) gB ⟨s, d, (xa), (xb), (xw)⟩) := CB.set (show CB 56 w12 gB (In.enc ⟨s, d, (xa), (xb), (lo + xm)⟩) from hX12.out) 4 (.int .i64 (xw))
        have hY13 : Hid (XB (w12.setCell ⟨gB, 4, none⟩ (.int .i64 (xw))) gR ⟨ByteArray.empty, 0, 0, 0, 0⟩) := CB.farD (show CB 56 w12 gR (In.enc ⟨ByteArray.empty, 0, 0, 0, 0⟩) from hY12.out) (p := ⟨gB, 4, none⟩) (by show gB ≠ gR; have := hBR.out; omega) _
        have hC13 : Hid (Cur (w12.setCell ⟨gB, 4, none⟩ (.int .i64 (xw))) g (K + 14)) := hC12.out.far (p := ⟨gB, 4, none⟩) (by show g < gB; have := hgg.out; have := hBR.out; omega) _
        have hH13 : Hid (Chg g (g + 1) w (w12.setCell ⟨gB, 4, none⟩ (.int .i64 (xw)))) := hH12.out.newD (p := ⟨gB, 4, none⟩) (by show w.heap.size ≤ gB; have := hRw.out; have := hBR.out; omega) _
        clear hX12 hY12 hC12 hH12
        obtain ⟨x0, x1, x2, x3, x4⟩ := XB.cells hX13.out
        simp only at x0 x1 x2 x3 x4
        have p0 := CB.frozen (show CB 56 (w12.setCell ⟨gB, 4, none⟩ (.int .i64 (xw))) gR (In.enc ⟨ByteArray.empty, 0, 0, 0, 0⟩) from hY13.out) 0
        have p1 := CB.frozen (show CB 56 (w12.setCell ⟨gB, 4, none⟩ (.int .i64 (xw))) gR (In.enc ⟨ByteArray.empty, 0, 0, 0, 0⟩) from hY13.out) 1
        have p2 := CB.frozen (show CB 56 (w12.setCell ⟨gB, 4, none⟩ (.int .i64 (xw))) gR (In.enc ⟨ByteArray.empty, 0, 0, 0, 0⟩) from hY13.out) 2
        have p3 := CB.frozen (show CB 56 (w12.setCell ⟨gB, 4, none⟩ (.int .i64 (xw))) gR (In.enc ⟨ByteArray.empty, 0, 0, 0, 0⟩) from hY13.out) 3
        have p4 := CB.frozen (show CB 56 (w12.setCell ⟨gB, 4, none⟩ (.int .i64 (xw))) gR (In.enc ⟨ByteArray.empty, 0, 0, 0, 0⟩) from hY13.out) 4
        obtain ⟨y0, y1, y2, y3, y4⟩ := XB.cells hY13.out
        simp only at y0 y1 y2 y3 y4
        have hne : ¬ gR = gB := by have := hBR.out; omega
        have hne2 : ¬ gB = gR := by have := hBR.out; omega
        go_wp2
        refine bodyPost_ret (v := .agg #[.string s, .int .i64 (d), .int .i64 ((xa)), .int .i64 ((xb)), .int .i64 ((xw))]) ?_ rfl ⟨⟨s, d, (xa), (xb), (xw)⟩, rfl, hsz.out, ?_, ?_⟩
        · obtain ⟨z0, z1, z2, z3, z4⟩ := (XB.five' ⟨s, d, (xa), (xb), (xw)⟩ hY13.out).cells
          generalize (World.setCell _ ⟨gR, 4, none⟩ _) = W at z0 z1 z2 z3 z4 ⊢
          simp only at z0 z1 z2 z3 z4
          simp [results, Try.results234, go_sem, z0, z1, z2, z3, z4]
        · have hcu := hC13.out.more (show K + 14 ≤ K + 14 by omega)
          exact ((((hcu.far (p := ⟨gR, 0, none⟩) hgg.out _).far (p := ⟨gR, 1, none⟩) hgg.out _).far (p := ⟨gR, 2, none⟩) hgg.out _).far (p := ⟨gR, 3, none⟩) hgg.out _).far (p := ⟨gR, 4, none⟩) hgg.out _
        · exact ((((hH13.out.newD (p := ⟨gR, 0, none⟩) hRw.out _).newD (p := ⟨gR, 1, none⟩) hRw.out _).newD (p := ⟨gR, 2, none⟩) hRw.out _).newD (p := ⟨gR, 3, none⟩) hRw.out _).newD (p := ⟨gR, 4, none⟩) hRw.out _
      · have h63' := Lib.hid h63
        clear h63
        rw [hm2]
        have hs1 : IntKind.i64.wrap (hi - lo) = hi - lo := IntWalk.i64_in _ (by omega)
        have hs2 : IntKind.i64.wrap (hi - lo + 1) = hi - lo + 1 := IntWalk.i64_in _ (by omega)
        have hs0 : (hi == 63) = false := by have := h63'.out; simpa using this
        go_wp2_with (fail)
        with_reducible refine (HP.out (K + 8) (hi - lo + 1) w9 (by omega) (by omega) hC9.out).mono ?_
        rintro e w10 ⟨xm, rfl, hxm, hcu, hch⟩
        have hX10 := Lib.hid (CB.chgD (show CB 56 w9 gB (In.enc ⟨s, d, (xa), (xb), 0⟩) from hX9.out) hch (.inr (by have := hgg.out; have := hBR.out; omega)))
        have hY10 := Lib.hid (CB.chgD (show CB 56 w9 gR (In.enc ⟨ByteArray.empty, 0, 0, 0, 0⟩) from hY9.out) hch (.inr (by have := hgg.out; omega)))
        have hC10 := Lib.hid hcu
        have hH10 := Lib.hid (hH9.out.trans hch)
        clear hcu hch hX9 hY9 hC9 hH9
        have hs3 : IntKind.i64.wrap (lo + xm) = lo + xm := IntWalk.i64_in _ (by omega)
        have f11 := CB.frozen (show CB 56 w10 gB (In.enc ⟨s, d, (xa), (xb), 0⟩) from hX10.out) 4
        have o11 := (CB.cell (show CB 56 w10 gB (In.enc ⟨s, d, (xa), (xb), 0⟩) from hX10.out) 4).trans (rfl : _ = some (Value.int .i64 (0)))
        have hX11 : Hid (XB (w10.setCell ⟨gB, 4, none⟩ (.int .i64 (lo + xm))) gB ⟨s, d, (xa), (xb), (lo + xm)⟩) := CB.set (show CB 56 w10 gB (In.enc ⟨s, d, (xa), (xb), 0⟩) from hX10.out) 4 (.int .i64 (lo + xm))
        have hY11 : Hid (XB (w10.setCell ⟨gB, 4, none⟩ (.int .i64 (lo + xm))) gR ⟨ByteArray.empty, 0, 0, 0, 0⟩) := CB.farD (show CB 56 w10 gR (In.enc ⟨ByteArray.empty, 0, 0, 0, 0⟩) from hY10.out) (p := ⟨gB, 4, none⟩) (by show gB ≠ gR; have := hBR.out; omega) _
        have hC11 : Hid (Cur (w10.setCell ⟨gB, 4, none⟩ (.int .i64 (lo + xm))) g (K + 10)) := hC10.out.far (p := ⟨gB, 4, none⟩) (by show g < gB; have := hgg.out; have := hBR.out; omega) _
        have hH11 : Hid (Chg g (g + 1) w (w10.setCell ⟨gB, 4, none⟩ (.int .i64 (lo + xm)))) := hH10.out.newD (p := ⟨gB, 4, none⟩) (by show w.heap.size ≤ gB; have := hRw.out; have := hBR.out; omega) _
        clear hX10 hY10 hC10 hH10
        obtain ⟨x0, x1, x2, x3, x4⟩ := XB.cells hX11.out
        simp only at x0 x1 x2 x3 x4
        have p0 := CB.frozen (show CB 56 (w10.setCell ⟨gB, 4, none⟩ (.int .i64 (lo + xm))) gR (In.enc ⟨ByteArray.empty, 0, 0, 0, 0⟩) from hY11.out) 0
        have p1 := CB.frozen (show CB 56 (w10.setCell ⟨gB, 4, none⟩ (.int .i64 (lo + xm))) gR (In.enc ⟨ByteArray.empty, 0, 0, 0, 0⟩) from hY11.out) 1
        have p2 := CB.frozen (show CB 56 (w10.setCell ⟨gB, 4, none⟩ (.int .i64 (lo + xm))) gR (In.enc ⟨ByteArray.empty, 0, 0, 0, 0⟩) from hY11.out) 2
        have p3 := CB.frozen (show CB 56 (w10.setCell ⟨gB, 4, none⟩ (.int .i64 (lo + xm))) gR (In.enc ⟨ByteArray.empty, 0, 0, 0, 0⟩) from hY11.out) 3
        have p4 := CB.frozen (show CB 56 (w10.setCell ⟨gB, 4, none⟩ (.int .i64 (lo + xm))) gR (In.enc ⟨ByteArray.empty, 0, 0, 0, 0⟩) from hY11.out) 4
        obtain ⟨y0, y1, y2, y3, y4⟩ := XB.cells hY11.out
        simp only at y0 y1 y2 y3 y4
        have hne : ¬ gR = gB := by have := hBR.out; omega
        have hne2 : ¬ gB = gR := by have := hBR.out; omega
        go_wp2
        refine bodyPost_ret (v := .agg #[.string s, .int .i64 (d), .int .i64 ((xa)), .int .i64 ((xb)), .int .i64 ((lo + xm))]) ?_ rfl ⟨⟨s, d, (xa), (xb), (lo + xm)⟩, rfl, hsz.out, ?_, ?_⟩
        · obtain ⟨z0, z1, z2, z3, z4⟩ := (XB.five' ⟨s, d, (xa), (xb), (lo + xm)⟩ hY11.out).cells
          generalize (World.setCell _ ⟨gR, 4, none⟩ _) = W at z0 z1 z2 z3 z4 ⊢
          simp only at z0 z1 z2 z3 z4
          simp [results, Try.results234, go_sem, z0, z1, z2, z3, z4]
        · have hcu := hC11.out.more (show K + 10 ≤ K + 14 by omega)
          exact ((((hcu.far (p := ⟨gR, 0, none⟩) hgg.out _).far (p := ⟨gR, 1, none⟩) hgg.out _).far (p := ⟨gR, 2, none⟩) hgg.out _).far (p := ⟨gR, 3, none⟩) hgg.out _).far (p := ⟨gR, 4, none⟩) hgg.out _
        · exact ((((hH11.out.newD (p := ⟨gR, 0, none⟩) hRw.out _).newD (p := ⟨gR, 1, none⟩) hRw.out _).newD (p := ⟨gR, 2, none⟩) hRw.out _).newD (p := ⟨gR, 3, none⟩) hRw.out _).newD (p := ⟨gR, 4, none⟩) hRw.out _
    · have hm2 : decide (0 < hi) = false := decide_eq_false hm
      rw [hm2]
      obtain ⟨x0, x1, x2, x3, x4⟩ := XB.cells hX9.out
      simp only at x0 x1 x2 x3 x4
      have p0 := CB.frozen (show CB 56 w9 gR (In.enc ⟨ByteArray.empty, 0, 0, 0, 0⟩) from hY9.out) 0
      have p1 := CB.frozen (show CB 56 w9 gR (In.enc ⟨ByteArray.empty, 0, 0, 0, 0⟩) from hY9.out) 1
      have p2 := CB.frozen (show CB 56 w9 gR (In.enc ⟨ByteArray.empty, 0, 0, 0, 0⟩) from hY9.out) 2
      have p3 := CB.frozen (show CB 56 w9 gR (In.enc ⟨ByteArray.empty, 0, 0, 0, 0⟩) from hY9.out) 3
      have p4 := CB.frozen (show CB 56 w9 gR (In.enc ⟨ByteArray.empty, 0, 0, 0, 0⟩) from hY9.out) 4
      obtain ⟨y0, y1, y2, y3, y4⟩ := XB.cells hY9.out
      simp only at y0 y1 y2 y3 y4
      have hne : ¬ gR = gB := by have := hBR.out; omega
      have hne2 : ¬ gB = gR := by have := hBR.out; omega
      go_wp2
      refine bodyPost_ret (v := .agg #[.string s, .int .i64 (d), .int .i64 ((xa)), .int .i64 ((xb)), .int .i64 (0)]) ?_ rfl ⟨⟨s, d, (xa), (xb), 0⟩, rfl, hsz.out, ?_, ?_⟩
      · obtain ⟨z0, z1, z2, z3, z4⟩ := (XB.five' ⟨s, d, (xa), (xb), 0⟩ hY9.out).cells
        generalize (World.setCell _ ⟨gR, 4, none⟩ _) = W at z0 z1 z2 z3 z4 ⊢
        simp only at z0 z1 z2 z3 z4
        simp [results, Try.results234, go_sem, z0, z1, z2, z3, z4]
      · have hcu := hC9.out.more (show K + 8 ≤ K + 14 by omega)
        exact ((((hcu.far (p := ⟨gR, 0, none⟩) hgg.out _).far (p := ⟨gR, 1, none⟩) hgg.out _).far (p := ⟨gR, 2, none⟩) hgg.out _).far (p := ⟨gR, 3, none⟩) hgg.out _).far (p := ⟨gR, 4, none⟩) hgg.out _
      · exact ((((hH9.out.newD (p := ⟨gR, 0, none⟩) hRw.out _).newD (p := ⟨gR, 1, none⟩) hRw.out _).newD (p := ⟨gR, 2, none⟩) hRw.out _).newD (p := ⟨gR, 3, none⟩) hRw.out _).newD (p := ⟨gR, 4, none⟩) hRw.out _
end Go.Proofs.Ytmhdijklindipaa

/- What a node needs, and nodes moved to new places. No program. -/
namespace Go.Proofs.Ytmhdijklindipaa
open Go.RowKit
set_option linter.unusedVariables false

def setAll (ps : List Int) (b : List Bool) : List Bool := ps.foldl (fun b p => b.set p.toNat true) b
theorem setAll_len (ps : List Int) : ∀ b, (setAll ps b).length = b.length := by
  induction ps with
  | nil => intro b; rfl
  | cons a l ih => intro b; show (setAll l (b.set a.toNat true)).length = _; rw [ih, List.length_set]
theorem setAll_snoc (ps : List Int) (p : Int) (b : List Bool) : setAll (ps ++ [p]) b = (setAll ps b).set p.toNat true := by simp [setAll, List.foldl_append]
theorem getD_set_ne {b : List Bool} {i k : Nat} (x : Bool) (h : k ≠ i) : (b.set k x).getD i false = b.getD i false := by
  rw [List.getD_eq_getElem?_getD, List.getD_eq_getElem?_getD, List.getElem?_set_ne h]
theorem setAll_get {i : Nat} (ps : List Int) : ∀ b, (∀ p ∈ ps, p.toNat ≠ i) → (setAll ps b).getD i false = b.getD i false := by
  induction ps with
  | nil => intro b _; rfl
  | cons a l ih =>
    intro b h
    show (setAll l (b.set a.toNat true)).getD i false = _
    rw [ih _ (fun p hp => h p (by simp [hp])), getD_set_ne _ (h a (by simp))]
/-- Behind j parts of the node i. -/
def nstep (n : Nd) (i : Nat) (b : List Bool) (j : Nat) : List Bool := if b.getD i false = true then setAll ((parts n).take j) b else b
theorem nstep_len (n : Nd) (i : Nat) (b : List Bool) (j : Nat) : (nstep n i b j).length = b.length := by
  unfold nstep; split
  · exact setAll_len _ _
  · rfl
theorem nstep_zero (n : Nd) (i : Nat) (b : List Bool) : nstep n i b 0 = b := by unfold nstep; split <;> rfl
theorem nstep_self {n : Nd} {i : Nat} (b : List Bool) (j : Nat) (h : ∀ p ∈ parts n, 0 ≤ p ∧ p ≤ (i : Int) - 1) : (nstep n i b j).getD i false = b.getD i false := by
  unfold nstep; split
  · exact setAll_get _ _ (fun p hp => by have := h p (List.mem_of_mem_take hp); omega)
  · rfl
theorem nstep_succ {n : Nd} {i : Nat} {b : List Bool} {j : Nat} (hj : j < (parts n).length) (h : ∀ p ∈ parts n, 0 ≤ p ∧ p ≤ (i : Int) - 1) :
    (nstep n i b j).set ((parts n)[j]).toNat ((nstep n i b j).getD ((parts n)[j]).toNat false || b.getD i false) = nstep n i b (j + 1) := by
  unfold nstep
  by_cases hb : b.getD i false = true
  · rw [if_pos hb, if_pos hb, hb, Bool.or_true, List.take_succ_eq_append_getElem hj, setAll_snoc]
  · rw [if_neg hb, if_neg hb]
    have hb' : b.getD i false = false := by simpa using hb
    rw [hb', Bool.or_false]
    apply List.ext_getElem?
    intro q
    rw [List.getElem?_set]
    split
    · rename_i hq; subst hq
      split
      · rename_i hlt; rw [List.getD_eq_getElem?_getD, List.getElem?_eq_getElem hlt]; rfl
      · rename_i hge; rw [List.getElem?_eq_none (by omega)]
    · rfl
def nfull (n : Nd) (i : Nat) (b : List Bool) : List Bool := nstep n i b (parts n).length
def needFrom (es : List Nd) (root : Nat) : Nat → List Bool
  | 0 => (List.replicate (root + 1) false).set root true
  | k + 1 => nfull (es.getD (root - k) zeroNd) (root - k) (needFrom es root k)
theorem needFrom_len (es : List Nd) (root : Nat) : ∀ k, (needFrom es root k).length = root + 1 := by
  intro k
  induction k with
  | zero => simp [needFrom]
  | succ k ih => rw [needFrom, nfull, nstep_len, ih]
/-- What is needed when the nodes from q on have been seen. -/
def needTo (es : List Nd) (root q : Nat) : List Bool := needFrom es root (root + 1 - q)
def need (es : List Nd) (root : Nat) : List Bool := needTo es root 0
theorem needTo_len (es : List Nd) (root q : Nat) : (needTo es root q).length = root + 1 := needFrom_len _ _ _
theorem needTo_start (es : List Nd) (root : Nat) : needTo es root (root + 1) = (List.replicate (root + 1) false).set root true := by
  unfold needTo; rw [Nat.sub_self]; rfl
theorem needTo_step {es : List Nd} {root m : Nat} (hm : m ≤ root) (hr : root < es.length) : needTo es root m = nfull (es[m]'(by omega)) m (needTo es root (m + 1)) := by
  unfold needTo
  rw [show root + 1 - m = (root + 1 - (m + 1)) + 1 by omega, needFrom, show root - (root + 1 - (m + 1)) = m by omega, List.getD_eq_getElem?_getD, List.getElem?_eq_getElem (by omega)]
  rfl

/-- A node whose operands have new places. -/
def moved (n : Nd) (ps : List Int) : Nd := ⟨n.op, if 0 < ar n.op then ps.getD n.a.toNat 0 else 0, if 1 < ar n.op then ps.getD n.b.toNat 0 else 0, n.v⟩
def kp (es : List Nd) (nb : List Bool) (m : Nat) : Nat → List Int × List Nd
  | 0 => (zeros m, [])
  | k + 1 => if nb.getD k false = true then (((kp es nb m k).1).set k ((kp es nb m k).2.length : Int), (kp es nb m k).2 ++ [moved (es.getD k zeroNd) (kp es nb m k).1]) else kp es nb m k
def pl (es : List Nd) (nb : List Bool) (m k : Nat) : List Int := (kp es nb m k).1
def ke (es : List Nd) (nb : List Bool) (m k : Nat) : List Nd := (kp es nb m k).2
theorem pl_len (es : List Nd) (nb : List Bool) (m : Nat) : ∀ k, (pl es nb m k).length = m := by
  intro k
  induction k with
  | zero => simp [pl, kp, zeros]
  | succ k ih =>
    unfold pl kp; split
    · rw [List.length_set]; exact ih
    · exact ih
theorem ke_len (es : List Nd) (nb : List Bool) (m : Nat) : ∀ k, (ke es nb m k).length ≤ k := by
  intro k
  induction k with
  | zero => simp [ke, kp]
  | succ k ih =>
    unfold ke kp; split
    · rw [List.length_append]; simp only [List.length_cons, List.length_nil]; unfold ke at ih; omega
    · unfold ke at ih; omega
theorem kp_yes {es : List Nd} {nb : List Bool} {m k : Nat} (hk : k < es.length) (h : nb.getD k false = true) :
    pl es nb m (k + 1) = (pl es nb m k).set k ((ke es nb m k).length : Int) ∧ ke es nb m (k + 1) = ke es nb m k ++ [moved es[k] (pl es nb m k)] := by
  unfold pl ke
  rw [kp, if_pos h, List.getD_eq_getElem?_getD, List.getElem?_eq_getElem hk]
  exact ⟨rfl, rfl⟩
theorem kp_no {es : List Nd} {nb : List Bool} {m k : Nat} (h : nb.getD k false = false) : pl es nb m (k + 1) = pl es nb m k ∧ ke es nb m (k + 1) = ke es nb m k := by
  unfold pl ke
  rw [kp, if_neg (by rw [h]; decide)]
  exact ⟨rfl, rfl⟩
def keepL (es : List Nd) (root : Nat) : List Nd := ke es (need es root) (root + 1) (root + 1)
theorem getD_set_lt {ps : List Int} {i k : Nat} (x : Int) (h : i < k) : (ps.set k x).getD i 0 = ps.getD i 0 := by
  rw [List.getD_eq_getElem?_getD, List.getD_eq_getElem?_getD, List.getElem?_set_ne (by omega)]
theorem ar_cases_nd {n : Nd} {i : Int} (h : isNode n i = true) : (ar n.op = 0 ∧ isOne n.op = false ∧ isTwo n.op = false ∧ n.a = 0 ∧ n.b = 0) ∨ (ar n.op = 1 ∧ isOne n.op = true ∧ isTwo n.op = false ∧ 0 ≤ n.a ∧ n.a < i ∧ n.b = 0) ∨ (ar n.op = 2 ∧ isOne n.op = false ∧ isTwo n.op = true ∧ 0 ≤ n.a ∧ n.a < i ∧ 0 ≤ n.b ∧ n.b < i) := by
  unfold isNode at h
  unfold ar
  by_cases h1 : isIn n.op = true
  · rw [if_pos h1] at h
    simp only [Bool.and_eq_true, beq_iff_eq] at h
    have hx : n.op.toList = [105,110] := by simpa [isIn] using h1
    left; refine ⟨by simp [h1], ?_, ?_, h.1.1, h.1.2⟩ <;> simp [isOne, isTwo, twoOps, hx]
  · rw [if_neg h1] at h
    by_cases h2 : isConst n.op = true
    · rw [if_pos h2] at h
      simp only [Bool.and_eq_true, beq_iff_eq] at h
      have hx : n.op.toList = [99,111,110,115,116] := by simpa [isConst] using h2
      left; refine ⟨by simp [h2], ?_, ?_, h.1.1, h.1.2⟩ <;> simp [isOne, isTwo, twoOps, hx]
    · rw [if_neg h2] at h
      by_cases h3 : isOne n.op = true
      · rw [if_pos h3] at h
        simp only [Bool.and_eq_true, beq_iff_eq] at h
        have h4 := (inR_iff _ _ _).1 h.1.1
        have h5 : isTwo n.op = false := by
          cases h6 : isTwo n.op
          · rfl
          · have := two_not_one _ h6; rw [this] at h3; cases h3
        right; left; exact ⟨by simp [h1, h2, h3], h3, h5, h4.1, by omega, h.1.2⟩
      · rw [if_neg h3] at h
        simp only [Bool.and_eq_true, beq_iff_eq] at h
        have h4 := (inR_iff _ _ _).1 h.1.1.2
        have h5 := (inR_iff _ _ _).1 h.1.2
        right; right; exact ⟨by simp [h1, h2, h3, h.1.1.1], by simpa using h3, h.1.1.1, h4.1, by omega, h5.1, by omega⟩
theorem moved_set {n : Nd} {k : Nat} (h : isNode n k = true) (ps : List Int) (x : Int) : moved n (ps.set k x) = moved n ps := by
  unfold moved
  rcases ar_cases_nd h with ⟨h1, _, _, _, _⟩ | ⟨h1, _, _, h2, h3, _⟩ | ⟨h1, _, _, h2, h3, h4, h5⟩
  · simp [h1]
  · simp only [h1]; rw [getD_set_lt _ (by omega)]; simp
  · simp only [h1]; rw [getD_set_lt _ (by omega), getD_set_lt _ (by omega)]
end Go.Proofs.Ytmhdijklindipaa

/- Blocks of bools, boxes of a node; a node moved. -/
namespace Go.Proofs.Ytmhdijklindipaa
open Go.RowKit
set_option linter.unusedVariables false
set_option maxRecDepth 100000

def boolCells (bs : List Bool) : Array Value := (bs.map Value.bool).toArray
/-- A block of bools known whole. -/
def BB (w : World) (g : Nat) (bs : List Bool) : Prop := w.heap[g]? = some (.cells (boolCells bs) 4 (0, 0))
theorem BB.lt {w : World} {g : Nat} {bs : List Bool} (h : BB w g bs) : g < w.heap.size := by
  rcases Nat.lt_or_ge g w.heap.size with hlt | hge
  · exact hlt
  · unfold BB at h; rw [Array.getElem?_eq_none hge] at h; cases h
theorem BB.cell {w : World} {g : Nat} {bs : List Bool} (h : BB w g bs) (i : Nat) (hi : i < bs.length) : w.cell? ⟨g, i, none⟩ = some (.bool (bs.getD i false)) := by
  rw [cell_of_row w g i _ 4 (0, 0) h, List.getD_eq_getElem?_getD, List.getElem?_eq_getElem hi]; simp [boolCells, hi]
theorem BB.frozen {w : World} {g : Nat} {bs : List Bool} (h : BB w g bs) (i : Nat) : w.frozen? ⟨g, i, none⟩ = false := by
  unfold BB at h; simp [World.frozen?, h]
theorem BB.set {w : World} {g : Nat} {bs : List Bool} (h : BB w g bs) (i : Nat) (x : Bool) : BB (w.setCell ⟨g, i, none⟩ (.bool x)) g (bs.set i x) := by
  unfold BB at h ⊢
  simp [World.setCell, Array.getElem?_modify, h, boolCells, List.map_set]
theorem BB.next {w w' : World} {g : Nat} {bs : List Bool} (h : BB w g bs) (hb : Below w.heap.size w w') : BB w' g bs := (hb.block g h.lt).trans h
theorem BB.other {w : World} {g q : Nat} {bs : List Bool} (h : BB w g bs) (j : Nat) (x : Value) (hne : q ≠ g) : BB (w.setCell ⟨q, j, none⟩ x) g bs :=
  (Below.heap_setCell w ⟨q, j, none⟩ x g (by simpa using fun e => hne e.symm)).trans h
theorem Try.infoBool : (Try.prog.info? 4).map (fun i => (i.zero, i.size, i.bytes)) = some (some (.bool false), 1, 1) := by kernel_rfl
theorem run_make_bools (n : Nat) (hn : n ≤ 1048576) (W : World) : (Instr.makeSlice 209 (.int .i64 (n : Int)) (.int .i64 (n : Int))).run Try.prog W = .ok (.slice (some ⟨W.heap.size, 0, none⟩) n n) (W.alloc (.cells (boolCells (List.replicate n false)) 4)) := by
  obtain ⟨i0, hi, hz0, hz1, hz2⟩ := info_parts Try.infoBool
  have h := run_make (P := Try.prog) W 209 4 i0 _ Try.underlying209 hi hz0 .i64 .i64 n n (by omega) (by omega) (by rw [hz2]; omega) (by omega)
  rw [h]
  simp only [Int.toNat_natCast, hz1, Nat.mul_one]
  refine congrArg (fun c => Result.ok (Value.slice (some ⟨W.heap.size, 0, none⟩) n n) (W.alloc (.cells c 4))) ?_
  apply Array.ext'
  rw [boolCells, List.map_replicate]
  exact toList_madeCells_one _ _

/-- One node in a box. -/
def XN (w : World) (g : Nat) (n : Nd) : Prop := w.heap[g]? = some (.cells #[.string n.op, .int .i64 n.a, .int .i64 n.b, .int .i64 n.v] 40 (0, 0))
theorem XN.lt {w : World} {g : Nat} {n : Nd} (h : XN w g n) : g < w.heap.size := by
  rcases Nat.lt_or_ge g w.heap.size with hlt | hge
  · exact hlt
  · unfold XN at h; rw [Array.getElem?_eq_none hge] at h; cases h
theorem XN.next {w w' : World} {g : Nat} {n : Nd} (h : XN w g n) (hb : Below w.heap.size w w') : XN w' g n := (hb.block g h.lt).trans h
theorem XN.cells {w : World} {g : Nat} {n : Nd} (h : XN w g n) : w.cell? ⟨g, 0, none⟩ = some (.string n.op) ∧ w.cell? ⟨g, 1, none⟩ = some (.int .i64 n.a) ∧ w.cell? ⟨g, 2, none⟩ = some (.int .i64 n.b) ∧ w.cell? ⟨g, 3, none⟩ = some (.int .i64 n.v) := by
  have c := fun i => cell_of_row w g i _ 40 (0, 0) h
  exact ⟨c 0, c 1, c 2, c 3⟩
theorem XN.fz {w : World} {g : Nat} {n : Nd} (h : XN w g n) (i : Nat) : w.frozen? ⟨g, i, none⟩ = false := by
  unfold XN at h; simp [World.frozen?, h]
theorem XN.setA {w : World} {g : Nat} {n : Nd} (h : XN w g n) (x : Int) : XN (w.setCell ⟨g, 1, none⟩ (.int .i64 x)) g ⟨n.op, x, n.b, n.v⟩ := by
  unfold XN at h ⊢
  simp [World.setCell, Array.getElem?_modify, h]
theorem XN.setB {w : World} {g : Nat} {n : Nd} (h : XN w g n) (x : Int) : XN (w.setCell ⟨g, 2, none⟩ (.int .i64 x)) g ⟨n.op, n.a, x, n.v⟩ := by
  unfold XN at h ⊢
  simp [World.setCell, Array.getElem?_modify, h]
theorem XN.other {w : World} {g q : Nat} {n : Nd} (h : XN w g n) (j : Nat) (x : Value) (hne : q ≠ g) : XN (w.setCell ⟨q, j, none⟩ x) g n :=
  (Below.heap_setCell w ⟨q, j, none⟩ x g (by simpa using fun e => hne e.symm)).trans h
def put4 (w : World) (g : Nat) (n : Nd) : World := (((w.setCell ⟨g, 0, none⟩ (.string n.op)).setCell ⟨g, 1, none⟩ (.int .i64 n.a)).setCell ⟨g, 2, none⟩ (.int .i64 n.b)).setCell ⟨g, 3, none⟩ (.int .i64 n.v)
theorem XN.put4 {w : World} {g : Nat} {n : Nd} (h : XN w g n) (m : Nd) : XN (put4 w g m) g m := by
  unfold XN Go.Proofs.Ytmhdijklindipaa.put4 at *
  simp [World.setCell, Array.getElem?_modify, h]
theorem below_put4 {w w' : World} {B g : Nat} (h : Below B w w') (hg : B ≤ g) (n : Nd) : Below B w (put4 w' g n) :=
  (((h.setCell (p := ⟨g, 0, none⟩) hg _).setCell (p := ⟨g, 1, none⟩) hg _).setCell (p := ⟨g, 2, none⟩) hg _).setCell (p := ⟨g, 3, none⟩) hg _
theorem xn_new (w : World) (n : Nd) : XN (w.alloc (.cells #[.string n.op, .int .i64 n.a, .int .i64 n.b, .int .i64 n.v] 40)) w.heap.size n := heap_alloc_new w _
/-- A function whose result is a node in a cell. -/
theorem node_ret {fn : Func} {Q : Ending → World → Prop} {tmps : Array Value} {w : World} {g : Nat} {n : Nd} {s : Tmp} (hr : fn.results = #[.cell s 40]) (hs : tmps.getD s undef = .pointer (some ⟨g, 0, none⟩))
    (h : XN w g n) (hq : Q (.returned (.agg #[.string n.op, .int .i64 n.a, .int .i64 n.b, .int .i64 n.v])) w) : bodyPost Try.prog fn Q .ret ⟨tmps, []⟩ w := by
  obtain ⟨q0, q1, q2, q3⟩ := h.cells
  refine bodyPost_ret (v := .agg #[.string n.op, .int .i64 n.a, .int .i64 n.b, .int .i64 n.v]) ?_ rfl hq
  have hs' : tmps[s]?.getD undef = .pointer (some ⟨g, 0, none⟩) := by simpa using hs
  simp [results, hr, hs', go_sem, q0, q1, q2, q3]
end Go.Proofs.Ytmhdijklindipaa

/- The model's moved node. -/
namespace Go.Proofs.Ytmhdijklindipaa
open Go.RowKit
set_option linter.unusedVariables false
set_option maxRecDepth 100000

set_option maxHeartbeats 4000000 in
theorem exMoved_any (L B : Nat) (A : Option Addr) (c m k : Nat) (n : Nd) (ps : List Int) (w : World) (hm : ps.length = m) (hn : isNode n k = true) (hk : k < m) (hps : IS w L B A ps) (hB : B ≤ w.heap.size) :
    Calls Try.prog 222 #[.agg #[.string n.op, .int .i64 n.a, .int .i64 n.b, .int .i64 n.v], .slice A m c] w fun e w' => e = .returned (.agg #[.string (moved n ps).op, .int .i64 (moved n ps).a, .int .i64 (moved n ps).b, .int .i64 (moved n ps).v]) ∧ Below w.heap.size w w' := by
  obtain ⟨op, a, b, v⟩ := n
  dsimp only
  have HP := Lib.hid fun W => exParts_any op a b v W
  have hM := Lib.hid hm
  obtain ⟨W1, hW1⟩ : ∃ W1, W1 = w.alloc (.cells #[.string op, .int .i64 a, .int .i64 b, .int .i64 v] 40) := ⟨_, rfl⟩
  have b1 : Below w.heap.size w W1 := by rw [hW1]; exact (Below.refl _ _).alloc (Nat.le_refl _) _
  have x1 : XN W1 w.heap.size ⟨op, a, b, v⟩ := by rw [hW1]; exact xn_new _ ⟨op, a, b, v⟩
  have z1 : W1.heap.size = w.heap.size + 1 := by rw [hW1]; simp
  obtain ⟨W2, hW2⟩ : ∃ W2, W2 = W1.alloc (.cells #[.string ⟨#[]⟩, .int .i64 0, .int .i64 0, .int .i64 0] 40) := ⟨_, rfl⟩
  have c2 : Below W1.heap.size W1 W2 := by rw [hW2]; exact (Below.refl _ _).alloc (Nat.le_refl _) _
  have x2 : XN W2 w.heap.size ⟨op, a, b, v⟩ := x1.next c2
  have r2 : XN W2 (w.heap.size + 1) zeroNd := by rw [hW2, ← z1]; exact xn_new _ zeroNd
  have z2 : W2.heap.size = w.heap.size + 1 + 1 := by rw [hW2]; simp [z1]
  obtain ⟨W3, hW3⟩ : ∃ W3, W3 = W2.alloc (.cells #[.string op, .int .i64 0, .int .i64 0, .int .i64 v] 40) := ⟨_, rfl⟩
  have c3 : Below W2.heap.size W2 W3 := by rw [hW3]; exact (Below.refl _ _).alloc (Nat.le_refl _) _
  have x3 := Lib.hid (x2.next c3)
  have r3 := Lib.hid (r2.next c3)
  have o3 : Hid (XN W3 (w.heap.size + 1 + 1) ⟨op, 0, 0, v⟩) := by unfold Hid; rw [hW3, ← z2]; exact xn_new _ ⟨op, 0, 0, v⟩
  have b3 := Lib.hid ((b1.trans (c2.mono b1.size)).trans (c3.mono (by omega)))
  have z3 : W3.heap.size = w.heap.size + 1 + 1 + 1 := by rw [hW3]; simp [z2]
  have e3 : Hid (W3 = ((w.alloc (.cells #[.string op, .int .i64 a, .int .i64 b, .int .i64 v] 40)).alloc (.cells #[.string ⟨#[]⟩, .int .i64 0, .int .i64 0, .int .i64 0] 40)).alloc (.cells #[.string op, .int .i64 0, .int .i64 0, .int .i64 v] 40)) := by unfold Hid; rw [hW3, hW2, hW1]
  have hPS := Lib.hid fun (W : World) (hW : Below w.heap.size w W) => hps.below hW hB
  have hBB := Lib.hid hB
  have z3h := Lib.hid z3
  clear hW1 hW2 hW3 b1 x1 z1 c2 x2 r2 z2 c3 z3 hps hB hm
  rcases ar_cases_nd hn with ⟨h1, h2, h3, h4, h5⟩ | ⟨h1, h2, h3, h4, h5, h6⟩ | ⟨h1, h2, h3, h4, h5, h6, h7⟩
  · dsimp only at h1 h2 h3 h4 h5
    have hp : parts ⟨op, a, b, v⟩ = [] := by simp [parts, h2, h3]
    have hmv := Lib.hid (show moved ⟨op, a, b, v⟩ ps = ⟨op, 0, 0, v⟩ by unfold moved; rw [h1]; rfl)
    rw [hp] at HP
    rw [hmv.out]
    clear hp h1 h2 h3 hmv
    subst h4; subst h5
    obtain ⟨d0, d1, d2, d3⟩ := x3.out.cells
    go_enter Try.func222, Try.ntmps222
    go_wp2_with (fail)
    rw [← e3.out]
    refine (HP.out _).mono ?_
    rintro e w4 ⟨A4, c4, rfl, _, hb⟩
    have b4 := Lib.hid (b3.out.trans (hb.mono b3.out.size))
    have x4 := Lib.hid (x3.out.next hb)
    have r4 := Lib.hid (r3.out.next hb)
    have o4 := Lib.hid (o3.out.next hb)
    clear hb d0 d1 d2 d3
    obtain ⟨d0, d1, d2, d3⟩ := x4.out.cells
    go_wp2_with (fail)
    refine (HP.out _).mono ?_
    rintro e w5 ⟨A5, c5, rfl, _, hb⟩
    have b5 := Lib.hid (b4.out.trans (hb.mono b4.out.size))
    have r5 := Lib.hid (r4.out.next hb)
    have o5 := Lib.hid (o4.out.next hb)
    clear hb d0 d1 d2 d3
    obtain ⟨d0, d1, d2, d3⟩ := o5.out.cells
    obtain ⟨g0, g1, g2, g3⟩ := r5.out.cells
    have f0 := r5.out.fz 0
    have f1 := r5.out.fz 1
    have f2 := r5.out.fz 2
    have f3 := r5.out.fz 3
    have R := Lib.hid (r5.out.put4 ⟨op, 0, 0, v⟩)
    have RB := Lib.hid (below_put4 b5.out (g := w.heap.size + 1) (by omega) ⟨op, 0, 0, v⟩)
    go_wp2
    exact node_ret rfl rfl R.out ⟨rfl, RB.out⟩
  · dsimp only at h1 h2 h3 h4 h5 h6
    have hp : parts ⟨op, a, b, v⟩ = [a] := by simp [parts, h2]
    have hmv := Lib.hid (show moved ⟨op, a, b, v⟩ ps = ⟨op, ps.getD a.toNat 0, 0, v⟩ by unfold moved; rw [h1]; rfl)
    rw [hp] at HP
    rw [hmv.out]
    clear hp h1 h2 h3 hmv
    obtain ⟨pa, rfl⟩ := Int.eq_ofNat_of_zero_le h4
    subst h6
    have hpam : pa < m := by omega
    have ia0 : (0 : Int) ≤ (pa : Int) := h4
    have ia1 : (pa : Int) < (m : Int) := by omega
    obtain ⟨va, hva⟩ : ∃ va, va = ps.getD pa 0 := ⟨_, rfl⟩
    rw [Int.toNat_natCast, ← hva]
    have HVA := Lib.hid hva
    clear hva
    obtain ⟨d0, d1, d2, d3⟩ := x3.out.cells
    go_enter Try.func222, Try.ntmps222
    go_wp2_with (fail)
    rw [← e3.out]
    refine (HP.out _).mono ?_
    rintro e w4 ⟨A4, c4, rfl, _, hb⟩
    have b4 := Lib.hid (b3.out.trans (hb.mono b3.out.size))
    have x4 := Lib.hid (x3.out.next hb)
    have r4 := Lib.hid (r3.out.next hb)
    have o4 := Lib.hid (o3.out.next hb)
    clear hb d0 d1 d2 d3
    obtain ⟨d0, d1, d2, d3⟩ := x4.out.cells
    obtain ⟨gb, go, hA, ⟨_, hgb⟩, hcell⟩ := IS.getD (hPS.out w4 b4.out) (q := pa) (by rw [hM.out]; exact hpam)
    subst hA
    rw [← HVA.out] at hcell
    obtain ⟨e0, e1, e2, e3'⟩ := o4.out.cells
    have f1 := o4.out.fz 1
    have o4s := Lib.hid (o4.out.setA va)
    have x4s := Lib.hid (x4.out.other (q := w.heap.size + 1 + 1) 1 (.int .i64 va) (by omega))
    have r4s := Lib.hid (r4.out.other (q := w.heap.size + 1 + 1) 1 (.int .i64 va) (by omega))
    have b4s := Lib.hid (b4.out.setCell (p := ⟨w.heap.size + 1 + 1, 1, none⟩) (by show w.heap.size ≤ w.heap.size + 1 + 1; omega) (.int .i64 va))
    obtain ⟨W5, hW5⟩ : ∃ W5, W5 = w4.setCell ⟨w.heap.size + 1 + 1, 1, none⟩ (.int .i64 va) := ⟨_, rfl⟩
    rw [← hW5] at o4s x4s r4s b4s
    obtain ⟨d0', d1', d2', d3'⟩ := x4s.out.cells
    rw [hW5] at d0' d1' d2' d3'
    have HW5 := Lib.hid hW5
    clear hW5
    go_wp2_with (fail)
    rw [← HW5.out]
    clear e0 e1 e2 e3' f1 d0' d1' d2' d3' d0 d1 d2 d3 hcell
    refine (HP.out _).mono ?_
    rintro e w5 ⟨A5, c5, rfl, _, hb⟩
    have b5 := Lib.hid (b4s.out.trans (hb.mono b4s.out.size))
    have x5 := Lib.hid (x4s.out.next hb)
    have r5 := Lib.hid (r4s.out.next hb)
    have o5 := Lib.hid (o4s.out.next hb)
    clear hb
    obtain ⟨d0, d1, d2, d3⟩ := o5.out.cells
    obtain ⟨g0, g1, g2, g3⟩ := r5.out.cells
    have f0 := r5.out.fz 0
    have f1 := r5.out.fz 1
    have f2 := r5.out.fz 2
    have f3 := r5.out.fz 3
    have R := Lib.hid (r5.out.put4 ⟨op, va, 0, v⟩)
    have RB := Lib.hid (below_put4 b5.out (g := w.heap.size + 1) (by omega) ⟨op, va, 0, v⟩)
    go_wp2
    exact node_ret rfl rfl R.out ⟨rfl, RB.out⟩
  · dsimp only at h1 h2 h3 h4 h5 h6 h7
    have hp : parts ⟨op, a, b, v⟩ = [a, b] := by simp [parts, h2, h3]
    have hmv := Lib.hid (show moved ⟨op, a, b, v⟩ ps = ⟨op, ps.getD a.toNat 0, ps.getD b.toNat 0, v⟩ by unfold moved; rw [h1]; rfl)
    rw [hp] at HP
    rw [hmv.out]
    clear hp h1 h2 h3 hmv
    obtain ⟨pa, rfl⟩ := Int.eq_ofNat_of_zero_le h4
    have hpam : pa < m := by omega
    have ia0 : (0 : Int) ≤ (pa : Int) := h4
    have ia1 : (pa : Int) < (m : Int) := by omega
    obtain ⟨pb, rfl⟩ := Int.eq_ofNat_of_zero_le h6
    have hpbm : pb < m := by omega
    have ib0 : (0 : Int) ≤ (pb : Int) := h6
    have ib1 : (pb : Int) < (m : Int) := by omega
    obtain ⟨va, hva⟩ : ∃ va, va = ps.getD pa 0 := ⟨_, rfl⟩
    rw [Int.toNat_natCast, Int.toNat_natCast, ← hva]
    have HVA := Lib.hid hva
    clear hva
    obtain ⟨vb, hvb⟩ : ∃ vb, vb = ps.getD pb 0 := ⟨_, rfl⟩
    rw [← hvb]
    have HVB := Lib.hid hvb
    clear hvb
    obtain ⟨d0, d1, d2, d3⟩ := x3.out.cells
    go_enter Try.func222, Try.ntmps222
    go_wp2_with (fail)
    rw [← e3.out]
    refine (HP.out _).mono ?_
    rintro e w4 ⟨A4, c4, rfl, _, hb⟩
    have b4 := Lib.hid (b3.out.trans (hb.mono b3.out.size))
    have x4 := Lib.hid (x3.out.next hb)
    have r4 := Lib.hid (r3.out.next hb)
    have o4 := Lib.hid (o3.out.next hb)
    clear hb d0 d1 d2 d3
    obtain ⟨d0, d1, d2, d3⟩ := x4.out.cells
    obtain ⟨gb, go, hA, ⟨_, hgb⟩, hcell⟩ := IS.getD (hPS.out w4 b4.out) (q := pa) (by rw [hM.out]; exact hpam)
    subst hA
    rw [← HVA.out] at hcell
    obtain ⟨e0, e1, e2, e3'⟩ := o4.out.cells
    have f1 := o4.out.fz 1
    have o4s := Lib.hid (o4.out.setA va)
    have x4s := Lib.hid (x4.out.other (q := w.heap.size + 1 + 1) 1 (.int .i64 va) (by omega))
    have r4s := Lib.hid (r4.out.other (q := w.heap.size + 1 + 1) 1 (.int .i64 va) (by omega))
    have b4s := Lib.hid (b4.out.setCell (p := ⟨w.heap.size + 1 + 1, 1, none⟩) (by show w.heap.size ≤ w.heap.size + 1 + 1; omega) (.int .i64 va))
    obtain ⟨W5, hW5⟩ : ∃ W5, W5 = w4.setCell ⟨w.heap.size + 1 + 1, 1, none⟩ (.int .i64 va) := ⟨_, rfl⟩
    rw [← hW5] at o4s x4s r4s b4s
    obtain ⟨d0', d1', d2', d3'⟩ := x4s.out.cells
    rw [hW5] at d0' d1' d2' d3'
    have HW5 := Lib.hid hW5
    clear hW5
    go_wp2_with (fail)
    rw [← HW5.out]
    clear e0 e1 e2 e3' f1 d0' d1' d2' d3' d0 d1 d2 d3 hcell
    refine (HP.out _).mono ?_
    rintro e w5 ⟨A5, c5, rfl, _, hb⟩
    have b5 := Lib.hid (b4s.out.trans (hb.mono b4s.out.size))
    have x5 := Lib.hid (x4s.out.next hb)
    have r5 := Lib.hid (r4s.out.next hb)
    have o5 := Lib.hid (o4s.out.next hb)
    clear hb
    obtain ⟨gb', go', hA', ⟨_, hgb'⟩, hcell'⟩ := IS.getD (hPS.out w5 b5.out) (q := pb) (by rw [hM.out]; exact hpbm)
    injection hA' with hA'
    injection hA' with k1 k2 _
    subst k1; subst k2
    rw [← HVB.out] at hcell'
    obtain ⟨d0, d1, d2, d3⟩ := x5.out.cells
    obtain ⟨e0, e1, e2, e3'⟩ := o5.out.cells
    have f2 := o5.out.fz 2
    have o6 := Lib.hid (o5.out.setB vb)
    have r6 := Lib.hid (r5.out.other (q := w.heap.size + 1 + 1) 2 (.int .i64 vb) (by omega))
    have b6 := Lib.hid (b5.out.setCell (p := ⟨w.heap.size + 1 + 1, 2, none⟩) (by show w.heap.size ≤ w.heap.size + 1 + 1; omega) (.int .i64 vb))
    obtain ⟨m0, m1, m2, m3⟩ := o6.out.cells
    obtain ⟨g0, g1, g2, g3⟩ := r6.out.cells
    have h0 := r6.out.fz 0
    have h1 := r6.out.fz 1
    have h2 := r6.out.fz 2
    have h3 := r6.out.fz 3
    have R := Lib.hid (r6.out.put4 ⟨op, va, vb, v⟩)
    have RB := Lib.hid (below_put4 b6.out (g := w.heap.size + 1) (by omega) ⟨op, va, vb, v⟩)
    go_wp2
    exact node_ret rfl rfl R.out ⟨rfl, RB.out⟩
end Go.Proofs.Ytmhdijklindipaa

/- Nodes as cells; the two words for a slice of nodes are one. No program. -/
namespace Go.Proofs.Ytmhdijklindipaa
open Go.RowKit
set_option linter.unusedVariables false
def Nd.enc (n : Nd) : List Value := [.string n.op, .int .i64 n.a, .int .i64 n.b, .int .i64 n.v]
theorem NS.rs {w : World} {L B : Nat} {A : Option Addr} {es : List Nd} (h : NS w L B A es) : RS Nd.enc 4 w L B A es := by
  intro hn
  obtain ⟨b, o, e, hb, hc⟩ := h hn
  refine ⟨b, o, e, hb, fun i hi j v hv => ?_⟩
  obtain ⟨h1, h2, h3, h4⟩ := hc i hi
  match j, hv with
  | 0, hv => cases hv; exact h1
  | 1, hv => cases hv; exact h2
  | 2, hv => cases hv; exact h3
  | 3, hv => cases hv; exact h4
theorem RS.ns {w : World} {L B : Nat} {A : Option Addr} {es : List Nd} (h : RS Nd.enc 4 w L B A es) : NS w L B A es := by
  intro hn
  obtain ⟨b, o, e, hb, hc⟩ := h hn
  exact ⟨b, o, e, hb, fun i hi => ⟨hc i hi 0 _ rfl, hc i hi 1 _ rfl, hc i hi 2 _ rfl, hc i hi 3 _ rfl⟩⟩
end Go.Proofs.Ytmhdijklindipaa
