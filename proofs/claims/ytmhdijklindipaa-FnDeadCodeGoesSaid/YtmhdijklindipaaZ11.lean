/- Texts of this proof, one behind the other: RP, DR2, DR3. -/
import Derived.Test.YtmhdijklindipaaZ12
import Derived.Test.YtmhdijklindipaaLawC
import Derived.WalkKit
import Derived.WalkSpells
import Derived.WalkLawsBesides
import Derived.Lib.Hide
import Derived.Test.YtmhdijklindipaaDR1
import Derived.Test.YtmhdijklindipaaZ15
import Derived.Test.YtmhdijklindipaaCC
namespace Go.Proofs.Ytmhdijklindipaa
open Go.RowKit
set_option linter.unusedVariables false
set_option maxRecDepth 100000

/-- A block of one instruction, written whole. -/
def XB (w : World) (g : Nat) (x : In) : Prop := CB 56 w g (In.enc x)
theorem XB.cells {w : World} {g : Nat} {x : In} (h : XB w g x) : w.cell? ⟨g, 0, none⟩ = some (.string x.op) ∧ w.cell? ⟨g, 1, none⟩ = some (.int .i64 x.d) ∧ w.cell? ⟨g, 2, none⟩ = some (.int .i64 x.a) ∧ w.cell? ⟨g, 3, none⟩ = some (.int .i64 x.b) ∧ w.cell? ⟨g, 4, none⟩ = some (.int .i64 x.m) := by
  refine ⟨?_, ?_, ?_, ?_, ?_⟩ <;> (rw [CB.cell h]; rfl)

theorem XB.other {w : World} {g : Nat} {x : In} (h : XB w g x) (p : Addr) (v : Value) (hp : p.block ≠ g) : XB (w.setCell p v) g x := by
  unfold XB CB at *
  rw [← h]
  simp [World.setCell, Array.getElem?_modify, hp]
theorem XB.five {w : World} {g : Nat} {x : In} (y : In) (h : XB w g x) (o : Obj) :
    XB ((((((w.setCell ⟨g, 0, none⟩ (.string y.op)).setCell ⟨g, 1, none⟩ (.int .i64 y.d)).setCell ⟨g, 2, none⟩ (.int .i64 y.a)).setCell ⟨g, 3, none⟩ (.int .i64 y.b)).setCell ⟨g, 4, none⟩ (.int .i64 y.m)).alloc o) g y := by
  have h5 : XB (((((w.setCell ⟨g, 0, none⟩ (.string y.op)).setCell ⟨g, 1, none⟩ (.int .i64 y.d)).setCell ⟨g, 2, none⟩ (.int .i64 y.a)).setCell ⟨g, 3, none⟩ (.int .i64 y.b)).setCell ⟨g, 4, none⟩ (.int .i64 y.m)) g y :=
    ((((CB.set h 0 _).set 1 _).set 2 _).set 3 _).set 4 _
  exact CB.below h5 ((Below.refl _ _).alloc (Nat.le_refl _) _) (CB.lt h5)
set_option maxHeartbeats 4000000 in
theorem renameInstr_any (x : In) (b o c : Nat) (ns : List Int) (w : World) (hx : goodIn x = true) (hbb : b < w.heap.size) (hc : Six w b o ns) :
    Calls Try.prog 164 #[.agg #[.string x.op, .int .i64 x.d, .int .i64 x.a, .int .i64 x.b, .int .i64 x.m], .slice (some ⟨b, o, none⟩) 6 c] w fun e w' =>
      e = .returned (.agg #[.string (ren ns x).op, .int .i64 (ren ns x).d, .int .i64 (ren ns x).a, .int .i64 (ren ns x).b, .int .i64 (ren ns x).m]) ∧ Below w.heap.size w w' := by
  obtain ⟨hd, ha, hb, hok, hm⟩ := good_parts hx
  have hz := good_zero hx
  obtain ⟨op, d, a, b', m⟩ := x
  obtain ⟨nd, rfl⟩ := Int.eq_ofNat_of_zero_le hd.1
  obtain ⟨na, rfl⟩ := Int.eq_ofNat_of_zero_le ha.1
  obtain ⟨nb, rfl⟩ := Int.eq_ofNat_of_zero_le hb.1
  simp only at hd ha hb hz
  have hR : ren ns ⟨op, nd, na, nb, m⟩ = ⟨op, ns.getD nd 0, if (fm op).a = true then ns.getD na 0 else 0, if (fm op).b = true then ns.getD nb 0 else 0, m⟩ := by simp [ren]
  generalize ren ns ⟨op, nd, na, nb, m⟩ = R at *
  obtain ⟨r0, r1, r2, r3, r4⟩ := R
  have hRR := Lib.hid hR
  simp only
  clear hR hok hm hx
  have hB := fun o1 o2 => ((Below.refl w.heap.size w).alloc (Nat.le_refl _) o1).alloc (by simp) o2
  have hSix := Lib.hid hc
  have hBB := Lib.hid hbb
  clear hc hbb
  go_enter Try.func164, Try.ntmps164
  go_wp2_with (fail)
  refine (formOf_any _ _).mono ?_
  rintro e w2 ⟨rfl, hb2⟩
  have hb0 := Lib.hid ((hB _ _).trans (hb2.mono (by simp; omega)))
  have hX : Hid (XB w2 w.heap.size ⟨op, nd, na, nb, m⟩) := by
    have h0 : XB (w.alloc (.cells #[.string op, .int .i64 nd, .int .i64 na, .int .i64 nb, .int .i64 m] 56)) w.heap.size ⟨op, nd, na, nb, m⟩ := heap_alloc_new w _
    exact (CB.below (CB.below h0 ((Below.refl _ _).alloc (Nat.le_refl _) _) (by simp)) hb2 (by simp; omega))
  have hX2 : Hid (XB w2 (w.heap.size + 1) ⟨ByteArray.empty, 0, 0, 0, 0⟩) := by
    have h0 := heap_alloc_new (w.alloc (.cells #[.string op, .int .i64 nd, .int .i64 na, .int .i64 nb, .int .i64 m] 56)) (.cells #[.string ByteArray.empty, .int .i64 0, .int .i64 0, .int .i64 0, .int .i64 0] 56)
    rw [show (w.alloc (.cells #[.string op, .int .i64 nd, .int .i64 na, .int .i64 nb, .int .i64 m] 56)).heap.size = w.heap.size + 1 by simp] at h0
    exact CB.below h0 hb2 (by simp)
  obtain ⟨xa, xb, xc, xd, xe⟩ := hX.out.cells
  obtain ⟨ya, yb, yc, yd, ye⟩ := hX2.out.cells
  simp only at xa xb xc xd xe ya yb yc yd ye
  have f1 := CB.frozen hX.out 1
  have f2 := CB.frozen hX.out 2
  have f3 := CB.frozen hX.out 3
  have p0 := CB.frozen hX2.out 0
  have p1 := CB.frozen hX2.out 1
  have p2 := CB.frozen hX2.out 2
  have p3 := CB.frozen hX2.out 3
  have p4 := CB.frozen hX2.out 4
  have hz1 : w.heap.size < w2.heap.size := CB.lt hX.out
  have hz2 : w.heap.size + 1 < w2.heap.size := CB.lt hX2.out
  have hs2 := hSix.out.below hb0.out hBB.out
  have hbl : b < w2.heap.size := by have := hBB.out; omega
  have hne : ¬ w.heap.size = b := by have := hBB.out; omega
  have hne2 : ¬ w.heap.size + 1 = b := by have := hBB.out; omega
  have q1 := hs2 nd (by omega)
  have q2 := hs2 na (by omega)
  have q3 := hs2 nb (by omega)
  have i1 : (nd : Int) < 6 := by omega
  have i2 : (na : Int) < 6 := by omega
  have i3 : (nb : Int) < 6 := by omega
  generalize ns.getD nd 0 = vd at *
  generalize ns.getD na 0 = va at *
  generalize ns.getD nb 0 = vb at *
  clear hs2 hb2 hB hX hd ha hb
  generalize fm op = f at *
  obtain ⟨ok, fa, fb, lo, hi, cc⟩ := f
  simp only [fmV] at hz hRR ⊢
  obtain ⟨hza, hzb⟩ := hz
  have hZa := Lib.hid hza
  have hZb := Lib.hid hzb
  clear hza hzb
  have hgg : Hid (w.heap.size ≠ w.heap.size + 1) := by simp [Hid]
  cases fa <;> cases fb
  · have hna : (na : Int) = 0 := hZa.out rfl
    simp only [hna] at xc i2 ⊢
    have hnb : (nb : Int) = 0 := hZb.out rfl
    simp only [hnb] at xd i3 ⊢
    go_wp2
    have e := hRR.out
    simp only [Bool.false_eq_true, if_false, if_true, In.mk.injEq] at e
    obtain ⟨e0, e1, e2, e3, e4⟩ := e
    refine bodyPost_ret (v := .agg #[.string op, .int .i64 vd, .int .i64 0, .int .i64 0, .int .i64 m]) ?_ rfl ⟨by rw [e0, e1, e2, e3, e4], ?_⟩
    · obtain ⟨z0, z1, z2, z3, z4⟩ := ((hX2.out.other ⟨w.heap.size, 1, none⟩ (.int .i64 vd) hgg.out).five ⟨op, vd, 0, 0, m⟩ (.cells #[.bool false, .bool false, .int .i64 lo, .int .i64 hi, .int .i64 cc] 131)).cells
      generalize (World.alloc _ _) = W at z0 z1 z2 z3 z4 ⊢
      simp only at z0 z1 z2 z3 z4
      simp [results, Try.results164, go_sem, z0, z1, z2, z3, z4]
    · refine Below.alloc ?_ (by simp [World.setCell]; omega) _
      iterate 6 (refine Below.setCell ?_ (by first | exact Nat.le_refl _ | exact Nat.le_succ _) _)
      exact hb0.out
  · have hna : (na : Int) = 0 := hZa.out rfl
    simp only [hna] at xc i2 ⊢
    go_wp2
    have e := hRR.out
    simp only [Bool.false_eq_true, if_false, if_true, In.mk.injEq] at e
    obtain ⟨e0, e1, e2, e3, e4⟩ := e
    refine bodyPost_ret (v := .agg #[.string op, .int .i64 vd, .int .i64 0, .int .i64 vb, .int .i64 m]) ?_ rfl ⟨by rw [e0, e1, e2, e3, e4], ?_⟩
    · obtain ⟨z0, z1, z2, z3, z4⟩ := (((hX2.out.other ⟨w.heap.size, 1, none⟩ (.int .i64 vd) hgg.out).other ⟨w.heap.size, 3, none⟩ (.int .i64 vb) hgg.out).five ⟨op, vd, 0, vb, m⟩ (.cells #[.bool false, .bool true, .int .i64 lo, .int .i64 hi, .int .i64 cc] 131)).cells
      generalize (World.alloc _ _) = W at z0 z1 z2 z3 z4 ⊢
      simp only at z0 z1 z2 z3 z4
      simp [results, Try.results164, go_sem, z0, z1, z2, z3, z4]
    · refine Below.alloc ?_ (by simp [World.setCell]; omega) _
      iterate 7 (refine Below.setCell ?_ (by first | exact Nat.le_refl _ | exact Nat.le_succ _) _)
      exact hb0.out
  · have hnb : (nb : Int) = 0 := hZb.out rfl
    simp only [hnb] at xd i3 ⊢
    go_wp2
    have e := hRR.out
    simp only [Bool.false_eq_true, if_false, if_true, In.mk.injEq] at e
    obtain ⟨e0, e1, e2, e3, e4⟩ := e
    refine bodyPost_ret (v := .agg #[.string op, .int .i64 vd, .int .i64 va, .int .i64 0, .int .i64 m]) ?_ rfl ⟨by rw [e0, e1, e2, e3, e4], ?_⟩
    · obtain ⟨z0, z1, z2, z3, z4⟩ := (((hX2.out.other ⟨w.heap.size, 1, none⟩ (.int .i64 vd) hgg.out).other ⟨w.heap.size, 2, none⟩ (.int .i64 va) hgg.out).five ⟨op, vd, va, 0, m⟩ (.cells #[.bool true, .bool false, .int .i64 lo, .int .i64 hi, .int .i64 cc] 131)).cells
      generalize (World.alloc _ _) = W at z0 z1 z2 z3 z4 ⊢
      simp only at z0 z1 z2 z3 z4
      simp [results, Try.results164, go_sem, z0, z1, z2, z3, z4]
    · refine Below.alloc ?_ (by simp [World.setCell]; omega) _
      iterate 7 (refine Below.setCell ?_ (by first | exact Nat.le_refl _ | exact Nat.le_succ _) _)
      exact hb0.out
  · go_wp2
    have e := hRR.out
    simp only [Bool.false_eq_true, if_false, if_true, In.mk.injEq] at e
    obtain ⟨e0, e1, e2, e3, e4⟩ := e
    refine bodyPost_ret (v := .agg #[.string op, .int .i64 vd, .int .i64 va, .int .i64 vb, .int .i64 m]) ?_ rfl ⟨by rw [e0, e1, e2, e3, e4], ?_⟩
    · obtain ⟨z0, z1, z2, z3, z4⟩ := ((((hX2.out.other ⟨w.heap.size, 1, none⟩ (.int .i64 vd) hgg.out).other ⟨w.heap.size, 2, none⟩ (.int .i64 va) hgg.out).other ⟨w.heap.size, 3, none⟩ (.int .i64 vb) hgg.out).five ⟨op, vd, va, vb, m⟩ (.cells #[.bool true, .bool true, .int .i64 lo, .int .i64 hi, .int .i64 cc] 131)).cells
      generalize (World.alloc _ _) = W at z0 z1 z2 z3 z4 ⊢
      simp only at z0 z1 z2 z3 z4
      simp [results, Try.results164, go_sem, z0, z1, z2, z3, z4]
    · refine Below.alloc ?_ (by simp [World.setCell]; omega) _
      iterate 8 (refine Below.setCell ?_ (by first | exact Nat.le_refl _ | exact Nat.le_succ _) _)
      exact hb0.out
end Go.Proofs.Ytmhdijklindipaa

/- Drawn instructions. -/
namespace Go.Proofs.Ytmhdijklindipaa
open Go.RowKit
set_option linter.unusedVariables false
set_option maxRecDepth 100000

theorem Chg.newD {lo hi : Nat} {w w' : World} (h : Chg lo hi w w') {p : Addr} (hp : w.heap.size ≤ p.block) (u : Value) : Chg lo hi w (w'.setCell p u) :=
  ⟨h.os, h.tape, h.output, by simpa [World.setCell] using h.size, fun j hj hn => (Below.heap_setCell w' p u j (by omega)).trans (h.block j hj hn)⟩
theorem CB.chgD {t : TypeId} {w w' : World} {b lo hi : Nat} {cur : List Value} (h : CB t w b cur) (hc : Chg lo hi w w') (hd : b < lo ∨ hi ≤ b) : CB t w' b cur := (hc.block b h.lt hd).trans h
theorem CB.farD {t : TypeId} {w : World} {b : Nat} {cur : List Value} (h : CB t w b cur) {p : Addr} (hp : p.block ≠ b) (u : Value) : CB t (w.setCell p u) b cur := (Below.heap_setCell w p u b (fun e => hp e.symm)).trans h
theorem XB.five' {w : World} {g : Nat} {x : In} (y : In) (h : XB w g x) :
    XB (((((w.setCell ⟨g, 0, none⟩ (.string y.op)).setCell ⟨g, 1, none⟩ (.int .i64 y.d)).setCell ⟨g, 2, none⟩ (.int .i64 y.a)).setCell ⟨g, 3, none⟩ (.int .i64 y.b)).setCell ⟨g, 4, none⟩ (.int .i64 y.m)) g y := ((((CB.set h 0 _).set 1 _).set 2 _).set 3 _).set 4 _
/-- What a draw of an instruction hands back. -/
def DrX (w : World) (g K : Nat) (e : Ending) (w' : World) : Prop := ∃ x : In, e = .returned (.agg #[.string x.op, .int .i64 x.d, .int .i64 x.a, .int .i64 x.b, .int .i64 x.m]) ∧ x.op.size ≤ 100 ∧ Cur w' g K ∧ Chg g (g + 1) w w'
theorem fm_lohi (s : ByteArray) : 0 ≤ (fm s).lo ∧ (fm s).lo ≤ 1 ∧ 0 ≤ (fm s).hi ∧ (fm s).hi ≤ 63 := by
  show (fun f : Fm => 0 ≤ f.lo ∧ f.lo ≤ 1 ∧ 0 ≤ f.hi ∧ f.hi ≤ 63) (fm s)
  unfold fm
  repeat (refine ite_P (P := fun f : Fm => 0 ≤ f.lo ∧ f.lo ≤ 1 ∧ 0 ≤ f.hi ∧ f.hi ≤ 63) (by decide) ?_)
  decide

def ops21 : List ByteArray := [⟨#[115,101,116]⟩, ⟨#[109,111,118]⟩, ⟨#[110,111,116]⟩, ⟨#[110,101,103]⟩, ⟨#[97,100,100]⟩, ⟨#[97,100,100]⟩, ⟨#[115,117,98]⟩, ⟨#[97,110,100]⟩, ⟨#[111,114]⟩, ⟨#[120,111,114]⟩, ⟨#[115,104,108]⟩, ⟨#[115,104,114]⟩, ⟨#[108,101,115,115]⟩, ⟨#[101,113]⟩, ⟨#[109,117,108]⟩, ⟨#[97,100,100,105]⟩, ⟨#[97,110,100,105]⟩, ⟨#[120,111,114,105]⟩, ⟨#[115,104,108,105]⟩, ⟨#[115,104,114,105]⟩, ⟨#[108,101,97]⟩]
theorem ops21_size : ∀ s ∈ ops21, s.size ≤ 100 := by decide
theorem ops21_cells : (ops21.flatMap encD).toArray = #[.string ⟨#[115,101,116]⟩, .string ⟨#[109,111,118]⟩, .string ⟨#[110,111,116]⟩, .string ⟨#[110,101,103]⟩, .string ⟨#[97,100,100]⟩, .string ⟨#[97,100,100]⟩, .string ⟨#[115,117,98]⟩, .string ⟨#[97,110,100]⟩, .string ⟨#[111,114]⟩, .string ⟨#[120,111,114]⟩, .string ⟨#[115,104,108]⟩, .string ⟨#[115,104,114]⟩, .string ⟨#[108,101,115,115]⟩, .string ⟨#[101,113]⟩, .string ⟨#[109,117,108]⟩, .string ⟨#[97,100,100,105]⟩, .string ⟨#[97,110,100,105]⟩, .string ⟨#[120,111,114,105]⟩, .string ⟨#[115,104,108,105]⟩, .string ⟨#[115,104,114,105]⟩, .string ⟨#[108,101,97]⟩] := rfl

set_option maxHeartbeats 16000000 in
theorem instr_any (g K : Nat) (regs : Int) (w : World) (hK : K ≤ 700000000) (hr : regs ≤ 100) (hc : Cur w g K) :
    Calls Try.prog 234 #[.pointer (some ⟨g, 0, none⟩), .int .i64 regs] w (DrX w g (K + 14)) := by
  have HP := Lib.hid fun (K : Nat) (n : Int) (W : World) (hK : K ≤ 900000000) (hn : n ≤ 10000) (hc : Cur W g K) => pick_any g K n W hK hn hc
  have HW := Lib.hid fun (K : Nat) (W : World) (hK : K ≤ 800000000) (hc : Cur W g K) => word_any g K W hK hc
  have a0 := (Below.refl w.heap.size w).alloc (Nat.le_refl _) (.cells #[.string ⟨#[]⟩, .int .i64 0, .int .i64 0, .int .i64 0, .int .i64 0] 56)
  have hgw := hc.lt
  obtain ⟨gR, hgR⟩ : ∃ x, x = w.heap.size := ⟨_, rfl⟩
  have hY0 : XB (w.alloc (.cells #[.string ⟨#[]⟩, .int .i64 0, .int .i64 0, .int .i64 0, .int .i64 0] 56)) gR ⟨ByteArray.empty, 0, 0, 0, 0⟩ := by rw [hgR]; exact heap_alloc_new w _
  have hc0 := hc.below a0
  have hh0 : Chg g (g + 1) w (w.alloc (.cells #[.string ⟨#[]⟩, .int .i64 0, .int .i64 0, .int .i64 0, .int .i64 0] 56)) := (Chg.refl _ _ _).alloc _
  have hgg : Hid (g < gR) := by unfold Hid; omega
  have hRw : Hid (w.heap.size ≤ gR) := by unfold Hid; omega
  have eW : w.heap.size = gR := hgR.symm
  have hEW := Lib.hid eW
  clear hgR a0 hc
  go_enter Try.func234, Try.ntmps234
  go_upto_region 1 with fail
  generalize w.alloc (.cells #[.string ⟨#[]⟩, .int .i64 0, .int .i64 0, .int .i64 0, .int .i64 0] 56) = W0 at *
  try rw [eW]
  clear eW
  obtain ⟨k1, k2, k3, k4⟩ := lit_cur hc0 hh0 (.cells (ops21.flatMap encD).toArray 9)
  have hO := Lib.hid (of_any g K W0.heap.size (W0.heap.size + 1) (some ⟨W0.heap.size, 0, none⟩) 21 21 ops21 _ rfl (by omega) k1 (by decide) (by decide) (lit_ss W0 ops21) k3 k4)
  have hY1 := Lib.hid (CB.below (show CB 56 W0 gR (In.enc ⟨ByteArray.empty, 0, 0, 0, 0⟩) from hY0) ((Below.refl W0.heap.size W0).alloc (Nat.le_refl _) (.cells (ops21.flatMap encD).toArray 9)) (CB.lt hY0))
  have hH1 := Lib.hid k2
  clear k1 k2 k3 k4 hY0 hc0 hh0
  rw [ops21_cells] at hO hY1 hH1
  go_wp2_with (fail)
  refine hO.out.mono ?_
  rintro e w2 ⟨s, rfl, hmem, hc2, hch2⟩
  have hsz := Lib.hid (ops21_size s hmem)
  have hC2 := Lib.hid hc2
  have hH2 := Lib.hid (hH1.out.trans hch2)
  have hY2 : Hid (XB w2 gR ⟨ByteArray.empty, 0, 0, 0, 0⟩) := CB.chgD hY1.out hch2 (.inr (by have := hgg.out; omega))
  have hlh := Lib.hid (fm_lohi s)
  have HI := Lib.hid fun (W : World) => cdImm_any s W
  clear hmem hc2 hch2 hO hH1 hY1
  go_wp2_with (fail)
  refine (cdShape_any s _).mono ?_
  rintro e w2' ⟨rfl, rfl⟩
  obtain ⟨l1, l2, l3, l4⟩ := hlh.out
  generalize fm s = f at *
  obtain ⟨ok, fa, fb, lo, hi, cc⟩ := f
  dsimp only at *
  clear hlh
  go_wp2_with (fail)
  refine (HP.out (K + 2) regs w2 (by omega) (by omega) hC2.out).mono ?_
  rintro e w3 ⟨d, rfl, _, hc3, hch3⟩
  have hX3 := Lib.hid (show XB (w3.alloc (.cells #[.string s, .int .i64 d, .int .i64 0, .int .i64 0, .int .i64 0] 56)) w3.heap.size ⟨s, d, 0, 0, 0⟩ from heap_alloc_new w3 _)
  have a3 := (Below.refl w3.heap.size w3).alloc (Nat.le_refl _) (.cells #[.string s, .int .i64 d, .int .i64 0, .int .i64 0, .int .i64 0] 56)
  have hY3 := CB.chgD (show CB 56 w2 gR (In.enc ⟨ByteArray.empty, 0, 0, 0, 0⟩) from hY2.out) hch3 (.inr (by have := hgg.out; omega))
  have hYl := CB.lt hY3
  have hY4 : Hid (XB (w3.alloc (.cells #[.string s, .int .i64 d, .int .i64 0, .int .i64 0, .int .i64 0] 56)) gR ⟨ByteArray.empty, 0, 0, 0, 0⟩) := CB.below hY3 a3 hYl
  have hC4 := Lib.hid (hc3.below a3)
  have hH4 := Lib.hid ((hH2.out.trans hch3).alloc (.cells #[.string s, .int .i64 d, .int .i64 0, .int .i64 0, .int .i64 0] 56))
  obtain ⟨gB, hgB⟩ : ∃ x, x = w3.heap.size := ⟨_, rfl⟩
  have hBR : Hid (gR < gB) := by unfold Hid; omega
  have hX4 : Hid (XB (w3.alloc (.cells #[.string s, .int .i64 d, .int .i64 0, .int .i64 0, .int .i64 0] 56)) gB ⟨s, d, 0, 0, 0⟩) := by rw [hgB]; exact hX3.out
  have eB := hgB.symm
  clear hgB hX3 a3 hY3 hYl hc3 hch3 hC2 hH2 hY2
  cases fa <;> cases fb
  · go_wp2_with (fail)
    generalize w3.alloc (.cells #[.string s, .int .i64 d, .int .i64 0, .int .i64 0, .int .i64 0] 56) = W4 at *
    try rw [eB]
    clear eB
    with_reducible refine (HI.out W4).mono ?_
    rintro e w5 ⟨rfl, hbe⟩
    have hX5 := Lib.hid (CB.below (show CB 56 W4 gB (In.enc ⟨s, d, 0, 0, 0⟩) from hX4.out) hbe (CB.lt hX4.out))
    have hY5 := Lib.hid (CB.below (show CB 56 W4 gR (In.enc ⟨ByteArray.empty, 0, 0, 0, 0⟩) from hY4.out) hbe (CB.lt hY4.out))
    have hC5 := Lib.hid (hC4.out.below hbe)
    have hH5 := Lib.hid (hH4.out.trans (Chg.ofBelow hbe))
    clear hbe hX4 hY4 hC4 hH4
    by_cases hm : 0 < hi
    · have hm2 : decide (0 < hi) = true := decide_eq_true hm
      by_cases h63 : hi = 63
      · subst h63
        rw [hm2]
        have hs1 : IntKind.i64.wrap (63 - lo) = 63 - lo := IntWalk.i64_in _ (by omega)
        have hs2 : IntKind.i64.wrap (63 - lo + 1) = 63 - lo + 1 := IntWalk.i64_in _ (by omega)
        go_wp2_with (fail)
        with_reducible refine (HP.out (K + 4) (63 - lo + 1) w5 (by omega) (by omega) hC5.out).mono ?_
        rintro e w6 ⟨xm, rfl, hxm, hcu, hch⟩
        have hX6 := Lib.hid (CB.chgD (show CB 56 w5 gB (In.enc ⟨s, d, 0, 0, 0⟩) from hX5.out) hch (.inr (by have := hgg.out; have := hBR.out; omega)))
        have hY6 := Lib.hid (CB.chgD (show CB 56 w5 gR (In.enc ⟨ByteArray.empty, 0, 0, 0, 0⟩) from hY5.out) hch (.inr (by have := hgg.out; omega)))
        have hC6 := Lib.hid hcu
        have hH6 := Lib.hid (hH5.out.trans hch)
        clear hcu hch hX5 hY5 hC5 hH5
        have hs3 : IntKind.i64.wrap (lo + xm) = lo + xm := IntWalk.i64_in _ (by omega)
        have f7 := CB.frozen (show CB 56 w6 gB (In.enc ⟨s, d, 0, 0, 0⟩) from hX6.out) 4
        have o7 := (CB.cell (show CB 56 w6 gB (In.enc ⟨s, d, 0, 0, 0⟩) from hX6.out) 4).trans (rfl : _ = some (Value.int .i64 (0)))
        have hX7 : Hid (XB (w6.setCell ⟨gB, 4, none⟩ (.int .i64 (lo + xm))) gB ⟨s, d, 0, 0, (lo + xm)⟩) := CB.set (show CB 56 w6 gB (In.enc ⟨s, d, 0, 0, 0⟩) from hX6.out) 4 (.int .i64 (lo + xm))
        have hY7 : Hid (XB (w6.setCell ⟨gB, 4, none⟩ (.int .i64 (lo + xm))) gR ⟨ByteArray.empty, 0, 0, 0, 0⟩) := CB.farD (show CB 56 w6 gR (In.enc ⟨ByteArray.empty, 0, 0, 0, 0⟩) from hY6.out) (p := ⟨gB, 4, none⟩) (by show gB ≠ gR; have := hBR.out; omega) _
        have hC7 : Hid (Cur (w6.setCell ⟨gB, 4, none⟩ (.int .i64 (lo + xm))) g (K + 6)) := hC6.out.far (p := ⟨gB, 4, none⟩) (by show g < gB; have := hgg.out; have := hBR.out; omega) _
        have hH7 : Hid (Chg g (g + 1) w (w6.setCell ⟨gB, 4, none⟩ (.int .i64 (lo + xm)))) := hH6.out.newD (p := ⟨gB, 4, none⟩) (by show w.heap.size ≤ gB; have := hRw.out; have := hBR.out; omega) _
        clear hX6 hY6 hC6 hH6
        go_wp2_with (fail)
        with_reducible refine (HW.out (K + 6) (w6.setCell ⟨gB, 4, none⟩ (.int .i64 (lo + xm))) (by omega) hC7.out).mono ?_
        rintro e w8 ⟨xw, rfl, _, hcu, hch⟩
        have hX8 := Lib.hid (CB.chgD (show CB 56 (w6.setCell ⟨gB, 4, none⟩ (.int .i64 (lo + xm))) gB (In.enc ⟨s, d, 0, 0, (lo + xm)⟩) from hX7.out) hch (.inr (by have := hgg.out; have := hBR.out; omega)))
        have hY8 := Lib.hid (CB.chgD (show CB 56 (w6.setCell ⟨gB, 4, none⟩ (.int .i64 (lo + xm))) gR (In.enc ⟨ByteArray.empty, 0, 0, 0, 0⟩) from hY7.out) hch (.inr (by have := hgg.out; omega)))
        have hC8 := Lib.hid hcu
        have hH8 := Lib.hid (hH7.out.trans hch)
        clear hcu hch hX7 hY7 hC7 hH7
        have f9 := CB.frozen (show CB 56 w8 gB (In.enc ⟨s, d, 0, 0, (lo + xm)⟩) from hX8.out) 4
        have o9 := (CB.cell (show CB 56 w8 gB (In.enc ⟨s, d, 0, 0, (lo + xm)⟩) from hX8.out) 4).trans (rfl : _ = some (Value.int .i64 ((lo + xm))))
        have hX9 : Hid (XB (w8.setCell ⟨gB, 4, none⟩ (.int .i64 (xw))) gB ⟨s, d, 0, 0, (xw)⟩) := CB.set (show CB 56 w8 gB (In.enc ⟨s, d, 0, 0, (lo + xm)⟩) from hX8.out) 4 (.int .i64 (xw))
        have hY9 : Hid (XB (w8.setCell ⟨gB, 4, none⟩ (.int .i64 (xw))) gR ⟨ByteArray.empty, 0, 0, 0, 0⟩) := CB.farD (show CB 56 w8 gR (In.enc ⟨ByteArray.empty, 0, 0, 0, 0⟩) from hY8.out) (p := ⟨gB, 4, none⟩) (by show gB ≠ gR; have := hBR.out; omega) _
        have hC9 : Hid (Cur (w8.setCell ⟨gB, 4, none⟩ (.int .i64 (xw))) g (K + 10)) := hC8.out.far (p := ⟨gB, 4, none⟩) (by show g < gB; have := hgg.out; have := hBR.out; omega) _
        have hH9 : Hid (Chg g (g + 1) w (w8.setCell ⟨gB, 4, none⟩ (.int .i64 (xw)))) := hH8.out.newD (p := ⟨gB, 4, none⟩) (by show w.heap.size ≤ gB; have := hRw.out; have := hBR.out; omega) _
        clear hX8 hY8 hC8 hH8
        obtain ⟨x0, x1, x2, x3, x4⟩ := XB.cells hX9.out
        simp only at x0 x1 x2 x3 x4
        have p0 := CB.frozen (show CB 56 (w8.setCell ⟨gB, 4, none⟩ (.int .i64 (xw))) gR (In.enc ⟨ByteArray.empty, 0, 0, 0, 0⟩) from hY9.out) 0
        have p1 := CB.frozen (show CB 56 (w8.setCell ⟨gB, 4, none⟩ (.int .i64 (xw))) gR (In.enc ⟨ByteArray.empty, 0, 0, 0, 0⟩) from hY9.out) 1
        have p2 := CB.frozen (show CB 56 (w8.setCell ⟨gB, 4, none⟩ (.int .i64 (xw))) gR (In.enc ⟨ByteArray.empty, 0, 0, 0, 0⟩) from hY9.out) 2
        have p3 := CB.frozen (show CB 56 (w8.setCell ⟨gB, 4, none⟩ (.int .i64 (xw))) gR (In.enc ⟨ByteArray.empty, 0, 0, 0, 0⟩) from hY9.out) 3
        have p4 := CB.frozen (show CB 56 (w8.setCell ⟨gB, 4, none⟩ (.int .i64 (xw))) gR (In.enc ⟨ByteArray.empty, 0, 0, 0, 0⟩) from hY9.out) 4
        obtain ⟨y0, y1, y2, y3, y4⟩ := XB.cells hY9.out
        simp only at y0 y1 y2 y3 y4
        have hne : ¬ gR = gB := by have := hBR.out; omega
        have hne2 : ¬ gB = gR := by have := hBR.out; omega
        go_wp2
        refine bodyPost_ret (v := .agg #[.string s, .int .i64 (d), .int .i64 (0), .int .i64 (0), .int .i64 ((xw))]) ?_ rfl ⟨⟨s, d, 0, 0, (xw)⟩, rfl, hsz.out, ?_, ?_⟩
        · obtain ⟨z0, z1, z2, z3, z4⟩ := (XB.five' ⟨s, d, 0, 0, (xw)⟩ hY9.out).cells
          generalize (World.setCell _ ⟨gR, 4, none⟩ _) = W at z0 z1 z2 z3 z4 ⊢
          simp only at z0 z1 z2 z3 z4
          simp [results, Try.results234, go_sem, z0, z1, z2, z3, z4]
        · have hcu := hC9.out.more (show K + 10 ≤ K + 14 by omega)
          exact ((((hcu.far (p := ⟨gR, 0, none⟩) hgg.out _).far (p := ⟨gR, 1, none⟩) hgg.out _).far (p := ⟨gR, 2, none⟩) hgg.out _).far (p := ⟨gR, 3, none⟩) hgg.out _).far (p := ⟨gR, 4, none⟩) hgg.out _
        · exact ((((hH9.out.newD (p := ⟨gR, 0, none⟩) hRw.out _).newD (p := ⟨gR, 1, none⟩) hRw.out _).newD (p := ⟨gR, 2, none⟩) hRw.out _).newD (p := ⟨gR, 3, none⟩) hRw.out _).newD (p := ⟨gR, 4, none⟩) hRw.out _
      · have h63' := Lib.hid h63
        clear h63
        rw [hm2]
        have hs1 : IntKind.i64.wrap (hi - lo) = hi - lo := IntWalk.i64_in _ (by omega)
        have hs2 : IntKind.i64.wrap (hi - lo + 1) = hi - lo + 1 := IntWalk.i64_in _ (by omega)
        have hs0 : (hi == 63) = false := by have := h63'.out; simpa using this
        go_wp2_with (fail)
        with_reducible refine (HP.out (K + 4) (hi - lo + 1) w5 (by omega) (by omega) hC5.out).mono ?_
        rintro e w6 ⟨xm, rfl, hxm, hcu, hch⟩
        have hX6 := Lib.hid (CB.chgD (show CB 56 w5 gB (In.enc ⟨s, d, 0, 0, 0⟩) from hX5.out) hch (.inr (by have := hgg.out; have := hBR.out; omega)))
        have hY6 := Lib.hid (CB.chgD (show CB 56 w5 gR (In.enc ⟨ByteArray.empty, 0, 0, 0, 0⟩) from hY5.out) hch (.inr (by have := hgg.out; omega)))
        have hC6 := Lib.hid hcu
        have hH6 := Lib.hid (hH5.out.trans hch)
        clear hcu hch hX5 hY5 hC5 hH5
        have hs3 : IntKind.i64.wrap (lo + xm) = lo + xm := IntWalk.i64_in _ (by omega)
        have f7 := CB.frozen (show CB 56 w6 gB (In.enc ⟨s, d, 0, 0, 0⟩) from hX6.out) 4
        have o7 := (CB.cell (show CB 56 w6 gB (In.enc ⟨s, d, 0, 0, 0⟩) from hX6.out) 4).trans (rfl : _ = some (Value.int .i64 (0)))
        have hX7 : Hid (XB (w6.setCell ⟨gB, 4, none⟩ (.int .i64 (lo + xm))) gB ⟨s, d, 0, 0, (lo + xm)⟩) := CB.set (show CB 56 w6 gB (In.enc ⟨s, d, 0, 0, 0⟩) from hX6.out) 4 (.int .i64 (lo + xm))
        have hY7 : Hid (XB (w6.setCell ⟨gB, 4, none⟩ (.int .i64 (lo + xm))) gR ⟨ByteArray.empty, 0, 0, 0, 0⟩) := CB.farD (show CB 56 w6 gR (In.enc ⟨ByteArray.empty, 0, 0, 0, 0⟩) from hY6.out) (p := ⟨gB, 4, none⟩) (by show gB ≠ gR; have := hBR.out; omega) _
        have hC7 : Hid (Cur (w6.setCell ⟨gB, 4, none⟩ (.int .i64 (lo + xm))) g (K + 6)) := hC6.out.far (p := ⟨gB, 4, none⟩) (by show g < gB; have := hgg.out; have := hBR.out; omega) _
        have hH7 : Hid (Chg g (g + 1) w (w6.setCell ⟨gB, 4, none⟩ (.int .i64 (lo + xm)))) := hH6.out.newD (p := ⟨gB, 4, none⟩) (by show w.heap.size ≤ gB; have := hRw.out; have := hBR.out; omega) _
        clear hX6 hY6 hC6 hH6
        obtain ⟨x0, x1, x2, x3, x4⟩ := XB.cells hX7.out
        simp only at x0 x1 x2 x3 x4
        have p0 := CB.frozen (show CB 56 (w6.setCell ⟨gB, 4, none⟩ (.int .i64 (lo + xm))) gR (In.enc ⟨ByteArray.empty, 0, 0, 0, 0⟩) from hY7.out) 0
        have p1 := CB.frozen (show CB 56 (w6.setCell ⟨gB, 4, none⟩ (.int .i64 (lo + xm))) gR (In.enc ⟨ByteArray.empty, 0, 0, 0, 0⟩) from hY7.out) 1
        have p2 := CB.frozen (show CB 56 (w6.setCell ⟨gB, 4, none⟩ (.int .i64 (lo + xm))) gR (In.enc ⟨ByteArray.empty, 0, 0, 0, 0⟩) from hY7.out) 2
        have p3 := CB.frozen (show CB 56 (w6.setCell ⟨gB, 4, none⟩ (.int .i64 (lo + xm))) gR (In.enc ⟨ByteArray.empty, 0, 0, 0, 0⟩) from hY7.out) 3
        have p4 := CB.frozen (show CB 56 (w6.setCell ⟨gB, 4, none⟩ (.int .i64 (lo + xm))) gR (In.enc ⟨ByteArray.empty, 0, 0, 0, 0⟩) from hY7.out) 4
        obtain ⟨y0, y1, y2, y3, y4⟩ := XB.cells hY7.out
        simp only at y0 y1 y2 y3 y4
        have hne : ¬ gR = gB := by have := hBR.out; omega
        have hne2 : ¬ gB = gR := by have := hBR.out; omega
        go_wp2
        refine bodyPost_ret (v := .agg #[.string s, .int .i64 (d), .int .i64 (0), .int .i64 (0), .int .i64 ((lo + xm))]) ?_ rfl ⟨⟨s, d, 0, 0, (lo + xm)⟩, rfl, hsz.out, ?_, ?_⟩
        · obtain ⟨z0, z1, z2, z3, z4⟩ := (XB.five' ⟨s, d, 0, 0, (lo + xm)⟩ hY7.out).cells
          generalize (World.setCell _ ⟨gR, 4, none⟩ _) = W at z0 z1 z2 z3 z4 ⊢
          simp only at z0 z1 z2 z3 z4
          simp [results, Try.results234, go_sem, z0, z1, z2, z3, z4]
        · have hcu := hC7.out.more (show K + 6 ≤ K + 14 by omega)
          exact ((((hcu.far (p := ⟨gR, 0, none⟩) hgg.out _).far (p := ⟨gR, 1, none⟩) hgg.out _).far (p := ⟨gR, 2, none⟩) hgg.out _).far (p := ⟨gR, 3, none⟩) hgg.out _).far (p := ⟨gR, 4, none⟩) hgg.out _
        · exact ((((hH7.out.newD (p := ⟨gR, 0, none⟩) hRw.out _).newD (p := ⟨gR, 1, none⟩) hRw.out _).newD (p := ⟨gR, 2, none⟩) hRw.out _).newD (p := ⟨gR, 3, none⟩) hRw.out _).newD (p := ⟨gR, 4, none⟩) hRw.out _
    · have hm2 : decide (0 < hi) = false := decide_eq_false hm
      rw [hm2]
      obtain ⟨x0, x1, x2, x3, x4⟩ := XB.cells hX5.out
      simp only at x0 x1 x2 x3 x4
      have p0 := CB.frozen (show CB 56 w5 gR (In.enc ⟨ByteArray.empty, 0, 0, 0, 0⟩) from hY5.out) 0
      have p1 := CB.frozen (show CB 56 w5 gR (In.enc ⟨ByteArray.empty, 0, 0, 0, 0⟩) from hY5.out) 1
      have p2 := CB.frozen (show CB 56 w5 gR (In.enc ⟨ByteArray.empty, 0, 0, 0, 0⟩) from hY5.out) 2
      have p3 := CB.frozen (show CB 56 w5 gR (In.enc ⟨ByteArray.empty, 0, 0, 0, 0⟩) from hY5.out) 3
      have p4 := CB.frozen (show CB 56 w5 gR (In.enc ⟨ByteArray.empty, 0, 0, 0, 0⟩) from hY5.out) 4
      obtain ⟨y0, y1, y2, y3, y4⟩ := XB.cells hY5.out
      simp only at y0 y1 y2 y3 y4
      have hne : ¬ gR = gB := by have := hBR.out; omega
      have hne2 : ¬ gB = gR := by have := hBR.out; omega
      go_wp2
      refine bodyPost_ret (v := .agg #[.string s, .int .i64 (d), .int .i64 (0), .int .i64 (0), .int .i64 (0)]) ?_ rfl ⟨⟨s, d, 0, 0, 0⟩, rfl, hsz.out, ?_, ?_⟩
      · obtain ⟨z0, z1, z2, z3, z4⟩ := (XB.five' ⟨s, d, 0, 0, 0⟩ hY5.out).cells
        generalize (World.setCell _ ⟨gR, 4, none⟩ _) = W at z0 z1 z2 z3 z4 ⊢
        simp only at z0 z1 z2 z3 z4
        simp [results, Try.results234, go_sem, z0, z1, z2, z3, z4]
      · have hcu := hC5.out.more (show K + 4 ≤ K + 14 by omega)
        exact ((((hcu.far (p := ⟨gR, 0, none⟩) hgg.out _).far (p := ⟨gR, 1, none⟩) hgg.out _).far (p := ⟨gR, 2, none⟩) hgg.out _).far (p := ⟨gR, 3, none⟩) hgg.out _).far (p := ⟨gR, 4, none⟩) hgg.out _
      · exact ((((hH5.out.newD (p := ⟨gR, 0, none⟩) hRw.out _).newD (p := ⟨gR, 1, none⟩) hRw.out _).newD (p := ⟨gR, 2, none⟩) hRw.out _).newD (p := ⟨gR, 3, none⟩) hRw.out _).newD (p := ⟨gR, 4, none⟩) hRw.out _
  · go_wp2_with (fail)
    generalize w3.alloc (.cells #[.string s, .int .i64 d, .int .i64 0, .int .i64 0, .int .i64 0] 56) = W4 at *
    try rw [eB]
    clear eB
    with_reducible refine (HP.out (K + 4) regs W4 (by omega) (by omega) hC4.out).mono ?_
    rintro e w5 ⟨xb, rfl, _, hcu, hch⟩
    have hX5 := Lib.hid (CB.chgD (show CB 56 W4 gB (In.enc ⟨s, d, 0, 0, 0⟩) from hX4.out) hch (.inr (by have := hgg.out; have := hBR.out; omega)))
    have hY5 := Lib.hid (CB.chgD (show CB 56 W4 gR (In.enc ⟨ByteArray.empty, 0, 0, 0, 0⟩) from hY4.out) hch (.inr (by have := hgg.out; omega)))
    have hC5 := Lib.hid hcu
    have hH5 := Lib.hid (hH4.out.trans hch)
    clear hcu hch hX4 hY4 hC4 hH4
    have f6 := CB.frozen (show CB 56 w5 gB (In.enc ⟨s, d, 0, 0, 0⟩) from hX5.out) 3
    have o6 := (CB.cell (show CB 56 w5 gB (In.enc ⟨s, d, 0, 0, 0⟩) from hX5.out) 3).trans (rfl : _ = some (Value.int .i64 (0)))
    have hX6 : Hid (XB (w5.setCell ⟨gB, 3, none⟩ (.int .i64 (xb))) gB ⟨s, d, 0, (xb), 0⟩) := CB.set (show CB 56 w5 gB (In.enc ⟨s, d, 0, 0, 0⟩) from hX5.out) 3 (.int .i64 (xb))
    have hY6 : Hid (XB (w5.setCell ⟨gB, 3, none⟩ (.int .i64 (xb))) gR ⟨ByteArray.empty, 0, 0, 0, 0⟩) := CB.farD (show CB 56 w5 gR (In.enc ⟨ByteArray.empty, 0, 0, 0, 0⟩) from hY5.out) (p := ⟨gB, 3, none⟩) (by show gB ≠ gR; have := hBR.out; omega) _
    have hC6 : Hid (Cur (w5.setCell ⟨gB, 3, none⟩ (.int .i64 (xb))) g (K + 6)) := hC5.out.far (p := ⟨gB, 3, none⟩) (by show g < gB; have := hgg.out; have := hBR.out; omega) _
    have hH6 : Hid (Chg g (g + 1) w (w5.setCell ⟨gB, 3, none⟩ (.int .i64 (xb)))) := hH5.out.newD (p := ⟨gB, 3, none⟩) (by show w.heap.size ≤ gB; have := hRw.out; have := hBR.out; omega) _
    clear hX5 hY5 hC5 hH5
    go_wp2_with (fail)
    with_reducible refine (HI.out (w5.setCell ⟨gB, 3, none⟩ (.int .i64 (xb)))).mono ?_
    rintro e w7 ⟨rfl, hbe⟩
    have hX7 := Lib.hid (CB.below (show CB 56 (w5.setCell ⟨gB, 3, none⟩ (.int .i64 (xb))) gB (In.enc ⟨s, d, 0, (xb), 0⟩) from hX6.out) hbe (CB.lt hX6.out))
    have hY7 := Lib.hid (CB.below (show CB 56 (w5.setCell ⟨gB, 3, none⟩ (.int .i64 (xb))) gR (In.enc ⟨ByteArray.empty, 0, 0, 0, 0⟩) from hY6.out) hbe (CB.lt hY6.out))
    have hC7 := Lib.hid (hC6.out.below hbe)
    have hH7 := Lib.hid (hH6.out.trans (Chg.ofBelow hbe))
    clear hbe hX6 hY6 hC6 hH6
    by_cases hm : 0 < hi
    · have hm2 : decide (0 < hi) = true := decide_eq_true hm
      by_cases h63 : hi = 63
      · subst h63
        rw [hm2]
        have hs1 : IntKind.i64.wrap (63 - lo) = 63 - lo := IntWalk.i64_in _ (by omega)
        have hs2 : IntKind.i64.wrap (63 - lo + 1) = 63 - lo + 1 := IntWalk.i64_in _ (by omega)
        go_wp2_with (fail)
        with_reducible refine (HP.out (K + 6) (63 - lo + 1) w7 (by omega) (by omega) hC7.out).mono ?_
        rintro e w8 ⟨xm, rfl, hxm, hcu, hch⟩
        have hX8 := Lib.hid (CB.chgD (show CB 56 w7 gB (In.enc ⟨s, d, 0, (xb), 0⟩) from hX7.out) hch (.inr (by have := hgg.out; have := hBR.out; omega)))
        have hY8 := Lib.hid (CB.chgD (show CB 56 w7 gR (In.enc ⟨ByteArray.empty, 0, 0, 0, 0⟩) from hY7.out) hch (.inr (by have := hgg.out; omega)))
        have hC8 := Lib.hid hcu
        have hH8 := Lib.hid (hH7.out.trans hch)
        clear hcu hch hX7 hY7 hC7 hH7
        have hs3 : IntKind.i64.wrap (lo + xm) = lo + xm := IntWalk.i64_in _ (by omega)
        have f9 := CB.frozen (show CB 56 w8 gB (In.enc ⟨s, d, 0, (xb), 0⟩) from hX8.out) 4
        have o9 := (CB.cell (show CB 56 w8 gB (In.enc ⟨s, d, 0, (xb), 0⟩) from hX8.out) 4).trans (rfl : _ = some (Value.int .i64 (0)))
        have hX9 : Hid (XB (w8.setCell ⟨gB, 4, none⟩ (.int .i64 (lo + xm))) gB ⟨s, d, 0, (xb), (lo + xm)⟩) := CB.set (show CB 56 w8 gB (In.enc ⟨s, d, 0, (xb), 0⟩) from hX8.out) 4 (.int .i64 (lo + xm))
        have hY9 : Hid (XB (w8.setCell ⟨gB, 4, none⟩ (.int .i64 (lo + xm))) gR ⟨ByteArray.empty, 0, 0, 0, 0⟩) := CB.farD (show CB 56 w8 gR (In.enc ⟨ByteArray.empty, 0, 0, 0, 0⟩) from hY8.out) (p := ⟨gB, 4, none⟩) (by show gB ≠ gR; have := hBR.out; omega) _
        have hC9 : Hid (Cur (w8.setCell ⟨gB, 4, none⟩ (.int .i64 (lo + xm))) g (K + 8)) := hC8.out.far (p := ⟨gB, 4, none⟩) (by show g < gB; have := hgg.out; have := hBR.out; omega) _
        have hH9 : Hid (Chg g (g + 1) w (w8.setCell ⟨gB, 4, none⟩ (.int .i64 (lo + xm)))) := hH8.out.newD (p := ⟨gB, 4, none⟩) (by show w.heap.size ≤ gB; have := hRw.out; have := hBR.out; omega) _
        clear hX8 hY8 hC8 hH8
        go_wp2_with (fail)
        with_reducible refine (HW.out (K + 8) (w8.setCell ⟨gB, 4, none⟩ (.int .i64 (lo + xm))) (by omega) hC9.out).mono ?_
        rintro e w10 ⟨xw, rfl, _, hcu, hch⟩
        have hX10 := Lib.hid (CB.chgD (show CB 56 (w8.setCell ⟨gB, 4, none⟩ (.int .i64 (lo + xm))) gB (In.enc ⟨s, d, 0, (xb), (lo + xm)⟩) from hX9.out) hch (.inr (by have := hgg.out; have := hBR.out; omega)))
        have hY10 := Lib.hid (CB.chgD (show CB 56 (w8.setCell ⟨gB, 4, none⟩ (.int .i64 (lo + xm))) gR (In.enc ⟨ByteArray.empty, 0, 0, 0, 0⟩) from hY9.out) hch (.inr (by have := hgg.out; omega)))
        have hC10 := Lib.hid hcu
        have hH10 := Lib.hid (hH9.out.trans hch)
        clear hcu hch hX9 hY9 hC9 hH9
        have f11 := CB.frozen (show CB 56 w10 gB (In.enc ⟨s, d, 0, (xb), (lo + xm)⟩) from hX10.out) 4
        have o11 := (CB.cell (show CB 56 w10 gB (In.enc ⟨s, d, 0, (xb), (lo + xm)⟩) from hX10.out) 4).trans (rfl : _ = some (Value.int .i64 ((lo + xm))))
        have hX11 : Hid (XB (w10.setCell ⟨gB, 4, none⟩ (.int .i64 (xw))) gB ⟨s, d, 0, (xb), (xw)⟩) := CB.set (show CB 56 w10 gB (In.enc ⟨s, d, 0, (xb), (lo + xm)⟩) from hX10.out) 4 (.int .i64 (xw))
        have hY11 : Hid (XB (w10.setCell ⟨gB, 4, none⟩ (.int .i64 (xw))) gR ⟨ByteArray.empty, 0, 0, 0, 0⟩) := CB.farD (show CB 56 w10 gR (In.enc ⟨ByteArray.empty, 0, 0, 0, 0⟩) from hY10.out) (p := ⟨gB, 4, none⟩) (by show gB ≠ gR; have := hBR.out; omega) _
        have hC11 : Hid (Cur (w10.setCell ⟨gB, 4, none⟩ (.int .i64 (xw))) g (K + 12)) := hC10.out.far (p := ⟨gB, 4, none⟩) (by show g < gB; have := hgg.out; have := hBR.out; omega) _
        have hH11 : Hid (Chg g (g + 1) w (w10.setCell ⟨gB, 4, none⟩ (.int .i64 (xw)))) := hH10.out.newD (p := ⟨gB, 4, none⟩) (by show w.heap.size ≤ gB; have := hRw.out; have := hBR.out; omega) _
        clear hX10 hY10 hC10 hH10
        obtain ⟨x0, x1, x2, x3, x4⟩ := XB.cells hX11.out
        simp only at x0 x1 x2 x3 x4
        have p0 := CB.frozen (show CB 56 (w10.setCell ⟨gB, 4, none⟩ (.int .i64 (xw))) gR (In.enc ⟨ByteArray.empty, 0, 0, 0, 0⟩) from hY11.out) 0
        have p1 := CB.frozen (show CB 56 (w10.setCell ⟨gB, 4, none⟩ (.int .i64 (xw))) gR (In.enc ⟨ByteArray.empty, 0, 0, 0, 0⟩) from hY11.out) 1
        have p2 := CB.frozen (show CB 56 (w10.setCell ⟨gB, 4, none⟩ (.int .i64 (xw))) gR (In.enc ⟨ByteArray.empty, 0, 0, 0, 0⟩) from hY11.out) 2
        have p3 := CB.frozen (show CB 56 (w10.setCell ⟨gB, 4, none⟩ (.int .i64 (xw))) gR (In.enc ⟨ByteArray.empty, 0, 0, 0, 0⟩) from hY11.out) 3
        have p4 := CB.frozen (show CB 56 (w10.setCell ⟨gB, 4, none⟩ (.int .i64 (xw))) gR (In.enc ⟨ByteArray.empty, 0, 0, 0, 0⟩) from hY11.out) 4
        obtain ⟨y0, y1, y2, y3, y4⟩ := XB.cells hY11.out
        simp only at y0 y1 y2 y3 y4
        have hne : ¬ gR = gB := by have := hBR.out; omega
        have hne2 : ¬ gB = gR := by have := hBR.out; omega
        go_wp2
        refine bodyPost_ret (v := .agg #[.string s, .int .i64 (d), .int .i64 (0), .int .i64 ((xb)), .int .i64 ((xw))]) ?_ rfl ⟨⟨s, d, 0, (xb), (xw)⟩, rfl, hsz.out, ?_, ?_⟩
        · obtain ⟨z0, z1, z2, z3, z4⟩ := (XB.five' ⟨s, d, 0, (xb), (xw)⟩ hY11.out).cells
          generalize (World.setCell _ ⟨gR, 4, none⟩ _) = W at z0 z1 z2 z3 z4 ⊢
          simp only at z0 z1 z2 z3 z4
          simp [results, Try.results234, go_sem, z0, z1, z2, z3, z4]
        · have hcu := hC11.out.more (show K + 12 ≤ K + 14 by omega)
          exact ((((hcu.far (p := ⟨gR, 0, none⟩) hgg.out _).far (p := ⟨gR, 1, none⟩) hgg.out _).far (p := ⟨gR, 2, none⟩) hgg.out _).far (p := ⟨gR, 3, none⟩) hgg.out _).far (p := ⟨gR, 4, none⟩) hgg.out _
        · exact ((((hH11.out.newD (p := ⟨gR, 0, none⟩) hRw.out _).newD (p := ⟨gR, 1, none⟩) hRw.out _).newD (p := ⟨gR, 2, none⟩) hRw.out _).newD (p := ⟨gR, 3, none⟩) hRw.out _).newD (p := ⟨gR, 4, none⟩) hRw.out _
      · have h63' := Lib.hid h63
        clear h63
        rw [hm2]
        have hs1 : IntKind.i64.wrap (hi - lo) = hi - lo := IntWalk.i64_in _ (by omega)
        have hs2 : IntKind.i64.wrap (hi - lo + 1) = hi - lo + 1 := IntWalk.i64_in _ (by omega)
        have hs0 : (hi == 63) = false := by have := h63'.out; simpa using this
        go_wp2_with (fail)
        with_reducible refine (HP.out (K + 6) (hi - lo + 1) w7 (by omega) (by omega) hC7.out).mono ?_
        rintro e w8 ⟨xm, rfl, hxm, hcu, hch⟩
        have hX8 := Lib.hid (CB.chgD (show CB 56 w7 gB (In.enc ⟨s, d, 0, (xb), 0⟩) from hX7.out) hch (.inr (by have := hgg.out; have := hBR.out; omega)))
        have hY8 := Lib.hid (CB.chgD (show CB 56 w7 gR (In.enc ⟨ByteArray.empty, 0, 0, 0, 0⟩) from hY7.out) hch (.inr (by have := hgg.out; omega)))
        have hC8 := Lib.hid hcu
        have hH8 := Lib.hid (hH7.out.trans hch)
        clear hcu hch hX7 hY7 hC7 hH7
        have hs3 : IntKind.i64.wrap (lo + xm) = lo + xm := IntWalk.i64_in _ (by omega)
        have f9 := CB.frozen (show CB 56 w8 gB (In.enc ⟨s, d, 0, (xb), 0⟩) from hX8.out) 4
        have o9 := (CB.cell (show CB 56 w8 gB (In.enc ⟨s, d, 0, (xb), 0⟩) from hX8.out) 4).trans (rfl : _ = some (Value.int .i64 (0)))
        have hX9 : Hid (XB (w8.setCell ⟨gB, 4, none⟩ (.int .i64 (lo + xm))) gB ⟨s, d, 0, (xb), (lo + xm)⟩) := CB.set (show CB 56 w8 gB (In.enc ⟨s, d, 0, (xb), 0⟩) from hX8.out) 4 (.int .i64 (lo + xm))
        have hY9 : Hid (XB (w8.setCell ⟨gB, 4, none⟩ (.int .i64 (lo + xm))) gR ⟨ByteArray.empty, 0, 0, 0, 0⟩) := CB.farD (show CB 56 w8 gR (In.enc ⟨ByteArray.empty, 0, 0, 0, 0⟩) from hY8.out) (p := ⟨gB, 4, none⟩) (by show gB ≠ gR; have := hBR.out; omega) _
        have hC9 : Hid (Cur (w8.setCell ⟨gB, 4, none⟩ (.int .i64 (lo + xm))) g (K + 8)) := hC8.out.far (p := ⟨gB, 4, none⟩) (by show g < gB; have := hgg.out; have := hBR.out; omega) _
        have hH9 : Hid (Chg g (g + 1) w (w8.setCell ⟨gB, 4, none⟩ (.int .i64 (lo + xm)))) := hH8.out.newD (p := ⟨gB, 4, none⟩) (by show w.heap.size ≤ gB; have := hRw.out; have := hBR.out; omega) _
        clear hX8 hY8 hC8 hH8
        obtain ⟨x0, x1, x2, x3, x4⟩ := XB.cells hX9.out
        simp only at x0 x1 x2 x3 x4
        have p0 := CB.frozen (show CB 56 (w8.setCell ⟨gB, 4, none⟩ (.int .i64 (lo + xm))) gR (In.enc ⟨ByteArray.empty, 0, 0, 0, 0⟩) from hY9.out) 0
        have p1 := CB.frozen (show CB 56 (w8.setCell ⟨gB, 4, none⟩ (.int .i64 (lo + xm))) gR (In.enc ⟨ByteArray.empty, 0, 0, 0, 0⟩) from hY9.out) 1
        have p2 := CB.frozen (show CB 56 (w8.setCell ⟨gB, 4, none⟩ (.int .i64 (lo + xm))) gR (In.enc ⟨ByteArray.empty, 0, 0, 0, 0⟩) from hY9.out) 2
        have p3 := CB.frozen (show CB 56 (w8.setCell ⟨gB, 4, none⟩ (.int .i64 (lo + xm))) gR (In.enc ⟨ByteArray.empty, 0, 0, 0, 0⟩) from hY9.out) 3
        have p4 := CB.frozen (show CB 56 (w8.setCell ⟨gB, 4, none⟩ (.int .i64 (lo + xm))) gR (In.enc ⟨ByteArray.empty, 0, 0, 0, 0⟩) from hY9.out) 4
        obtain ⟨y0, y1, y2, y3, y4⟩ := XB.cells hY9.out
        simp only at y0 y1 y2 y3 y4
        have hne : ¬ gR = gB := by have := hBR.out; omega
        have hne2 : ¬ gB = gR := by have := hBR.out; omega
        go_wp2
        refine bodyPost_ret (v := .agg #[.string s, .int .i64 (d), .int .i64 (0), .int .i64 ((xb)), .int .i64 ((lo + xm))]) ?_ rfl ⟨⟨s, d, 0, (xb), (lo + xm)⟩, rfl, hsz.out, ?_, ?_⟩
        · obtain ⟨z0, z1, z2, z3, z4⟩ := (XB.five' ⟨s, d, 0, (xb), (lo + xm)⟩ hY9.out).cells
          generalize (World.setCell _ ⟨gR, 4, none⟩ _) = W at z0 z1 z2 z3 z4 ⊢
          simp only at z0 z1 z2 z3 z4
          simp [results, Try.results234, go_sem, z0, z1, z2, z3, z4]
        · have hcu := hC9.out.more (show K + 8 ≤ K + 14 by omega)
          exact ((((hcu.far (p := ⟨gR, 0, none⟩) hgg.out _).far (p := ⟨gR, 1, none⟩) hgg.out _).far (p := ⟨gR, 2, none⟩) hgg.out _).far (p := ⟨gR, 3, none⟩) hgg.out _).far (p := ⟨gR, 4, none⟩) hgg.out _
        · exact ((((hH9.out.newD (p := ⟨gR, 0, none⟩) hRw.out _).newD (p := ⟨gR, 1, none⟩) hRw.out _).newD (p := ⟨gR, 2, none⟩) hRw.out _).newD (p := ⟨gR, 3, none⟩) hRw.out _).newD (p := ⟨gR, 4, none⟩) hRw.out _
    · have hm2 : decide (0 < hi) = false := decide_eq_false hm
      rw [hm2]
      obtain ⟨x0, x1, x2, x3, x4⟩ := XB.cells hX7.out
      simp only at x0 x1 x2 x3 x4
      have p0 := CB.frozen (show CB 56 w7 gR (In.enc ⟨ByteArray.empty, 0, 0, 0, 0⟩) from hY7.out) 0
      have p1 := CB.frozen (show CB 56 w7 gR (In.enc ⟨ByteArray.empty, 0, 0, 0, 0⟩) from hY7.out) 1
      have p2 := CB.frozen (show CB 56 w7 gR (In.enc ⟨ByteArray.empty, 0, 0, 0, 0⟩) from hY7.out) 2
      have p3 := CB.frozen (show CB 56 w7 gR (In.enc ⟨ByteArray.empty, 0, 0, 0, 0⟩) from hY7.out) 3
      have p4 := CB.frozen (show CB 56 w7 gR (In.enc ⟨ByteArray.empty, 0, 0, 0, 0⟩) from hY7.out) 4
      obtain ⟨y0, y1, y2, y3, y4⟩ := XB.cells hY7.out
      simp only at y0 y1 y2 y3 y4
      have hne : ¬ gR = gB := by have := hBR.out; omega
      have hne2 : ¬ gB = gR := by have := hBR.out; omega
      go_wp2
      refine bodyPost_ret (v := .agg #[.string s, .int .i64 (d), .int .i64 (0), .int .i64 ((xb)), .int .i64 (0)]) ?_ rfl ⟨⟨s, d, 0, (xb), 0⟩, rfl, hsz.out, ?_, ?_⟩
      · obtain ⟨z0, z1, z2, z3, z4⟩ := (XB.five' ⟨s, d, 0, (xb), 0⟩ hY7.out).cells
        generalize (World.setCell _ ⟨gR, 4, none⟩ _) = W at z0 z1 z2 z3 z4 ⊢
        simp only at z0 z1 z2 z3 z4
        simp [results, Try.results234, go_sem, z0, z1, z2, z3, z4]
      · have hcu := hC7.out.more (show K + 6 ≤ K + 14 by omega)
        exact ((((hcu.far (p := ⟨gR, 0, none⟩) hgg.out _).far (p := ⟨gR, 1, none⟩) hgg.out _).far (p := ⟨gR, 2, none⟩) hgg.out _).far (p := ⟨gR, 3, none⟩) hgg.out _).far (p := ⟨gR, 4, none⟩) hgg.out _
      · exact ((((hH7.out.newD (p := ⟨gR, 0, none⟩) hRw.out _).newD (p := ⟨gR, 1, none⟩) hRw.out _).newD (p := ⟨gR, 2, none⟩) hRw.out _).newD (p := ⟨gR, 3, none⟩) hRw.out _).newD (p := ⟨gR, 4, none⟩) hRw.out _
  · go_wp2_with (fail)
    generalize w3.alloc (.cells #[.string s, .int .i64 d, .int .i64 0, .int .i64 0, .int .i64 0] 56) = W4 at *
    try rw [eB]
    clear eB
    with_reducible refine (HP.out (K + 4) regs W4 (by omega) (by omega) hC4.out).mono ?_
    rintro e w5 ⟨xa, rfl, _, hcu, hch⟩
    have hX5 := Lib.hid (CB.chgD (show CB 56 W4 gB (In.enc ⟨s, d, 0, 0, 0⟩) from hX4.out) hch (.inr (by have := hgg.out; have := hBR.out; omega)))
    have hY5 := Lib.hid (CB.chgD (show CB 56 W4 gR (In.enc ⟨ByteArray.empty, 0, 0, 0, 0⟩) from hY4.out) hch (.inr (by have := hgg.out; omega)))
    have hC5 := Lib.hid hcu
    have hH5 := Lib.hid (hH4.out.trans hch)
    clear hcu hch hX4 hY4 hC4 hH4
    have f6 := CB.frozen (show CB 56 w5 gB (In.enc ⟨s, d, 0, 0, 0⟩) from hX5.out) 2
    have o6 := (CB.cell (show CB 56 w5 gB (In.enc ⟨s, d, 0, 0, 0⟩) from hX5.out) 2).trans (rfl : _ = some (Value.int .i64 (0)))
    have hX6 : Hid (XB (w5.setCell ⟨gB, 2, none⟩ (.int .i64 (xa))) gB ⟨s, d, (xa), 0, 0⟩) := CB.set (show CB 56 w5 gB (In.enc ⟨s, d, 0, 0, 0⟩) from hX5.out) 2 (.int .i64 (xa))
    have hY6 : Hid (XB (w5.setCell ⟨gB, 2, none⟩ (.int .i64 (xa))) gR ⟨ByteArray.empty, 0, 0, 0, 0⟩) := CB.farD (show CB 56 w5 gR (In.enc ⟨ByteArray.empty, 0, 0, 0, 0⟩) from hY5.out) (p := ⟨gB, 2, none⟩) (by show gB ≠ gR; have := hBR.out; omega) _
    have hC6 : Hid (Cur (w5.setCell ⟨gB, 2, none⟩ (.int .i64 (xa))) g (K + 6)) := hC5.out.far (p := ⟨gB, 2, none⟩) (by show g < gB; have := hgg.out; have := hBR.out; omega) _
    have hH6 : Hid (Chg g (g + 1) w (w5.setCell ⟨gB, 2, none⟩ (.int .i64 (xa)))) := hH5.out.newD (p := ⟨gB, 2, none⟩) (by show w.heap.size ≤ gB; have := hRw.out; have := hBR.out; omega) _
    clear hX5 hY5 hC5 hH5
    go_wp2_with (fail)
    with_reducible refine (HI.out (w5.setCell ⟨gB, 2, none⟩ (.int .i64 (xa)))).mono ?_
    rintro e w7 ⟨rfl, hbe⟩
    have hX7 := Lib.hid (CB.below (show CB 56 (w5.setCell ⟨gB, 2, none⟩ (.int .i64 (xa))) gB (In.enc ⟨s, d, (xa), 0, 0⟩) from hX6.out) hbe (CB.lt hX6.out))
    have hY7 := Lib.hid (CB.below (show CB 56 (w5.setCell ⟨gB, 2, none⟩ (.int .i64 (xa))) gR (In.enc ⟨ByteArray.empty, 0, 0, 0, 0⟩) from hY6.out) hbe (CB.lt hY6.out))
    have hC7 := Lib.hid (hC6.out.below hbe)
    have hH7 := Lib.hid (hH6.out.trans (Chg.ofBelow hbe))
    clear hbe hX6 hY6 hC6 hH6
    by_cases hm : 0 < hi
    · have hm2 : decide (0 < hi) = true := decide_eq_true hm
      by_cases h63 : hi = 63
      · subst h63
        rw [hm2]
        have hs1 : IntKind.i64.wrap (63 - lo) = 63 - lo := IntWalk.i64_in _ (by omega)
        have hs2 : IntKind.i64.wrap (63 - lo + 1) = 63 - lo + 1 := IntWalk.i64_in _ (by omega)
        go_wp2_with (fail)
        with_reducible refine (HP.out (K + 6) (63 - lo + 1) w7 (by omega) (by omega) hC7.out).mono ?_
        rintro e w8 ⟨xm, rfl, hxm, hcu, hch⟩
        have hX8 := Lib.hid (CB.chgD (show CB 56 w7 gB (In.enc ⟨s, d, (xa), 0, 0⟩) from hX7.out) hch (.inr (by have := hgg.out; have := hBR.out; omega)))
        have hY8 := Lib.hid (CB.chgD (show CB 56 w7 gR (In.enc ⟨ByteArray.empty, 0, 0, 0, 0⟩) from hY7.out) hch (.inr (by have := hgg.out; omega)))
        have hC8 := Lib.hid hcu
        have hH8 := Lib.hid (hH7.out.trans hch)
        clear hcu hch hX7 hY7 hC7 hH7
        have hs3 : IntKind.i64.wrap (lo + xm) = lo + xm := IntWalk.i64_in _ (by omega)
        have f9 := CB.frozen (show CB 56 w8 gB (In.enc ⟨s, d, (xa), 0, 0⟩) from hX8.out) 4
        have o9 := (CB.cell (show CB 56 w8 gB (In.enc ⟨s, d, (xa), 0, 0⟩) from hX8.out) 4).trans (rfl : _ = some (Value.int .i64 (0)))
        have hX9 : Hid (XB (w8.setCell ⟨gB, 4, none⟩ (.int .i64 (lo + xm))) gB ⟨s, d, (xa), 0, (lo + xm)⟩) := CB.set (show CB 56 w8 gB (In.enc ⟨s, d, (xa), 0, 0⟩) from hX8.out) 4 (.int .i64 (lo + xm))
        have hY9 : Hid (XB (w8.setCell ⟨gB, 4, none⟩ (.int .i64 (lo + xm))) gR ⟨ByteArray.empty, 0, 0, 0, 0⟩) := CB.farD (show CB 56 w8 gR (In.enc ⟨ByteArray.empty, 0, 0, 0, 0⟩) from hY8.out) (p := ⟨gB, 4, none⟩) (by show gB ≠ gR; have := hBR.out; omega) _
        have hC9 : Hid (Cur (w8.setCell ⟨gB, 4, none⟩ (.int .i64 (lo + xm))) g (K + 8)) := hC8.out.far (p := ⟨gB, 4, none⟩) (by show g < gB; have := hgg.out; have := hBR.out; omega) _
        have hH9 : Hid (Chg g (g + 1) w (w8.setCell ⟨gB, 4, none⟩ (.int .i64 (lo + xm)))) := hH8.out.newD (p := ⟨gB, 4, none⟩) (by show w.heap.size ≤ gB; have := hRw.out; have := hBR.out; omega) _
        clear hX8 hY8 hC8 hH8
        go_wp2_with (fail)
        with_reducible refine (HW.out (K + 8) (w8.setCell ⟨gB, 4, none⟩ (.int .i64 (lo + xm))) (by omega) hC9.out).mono ?_
        rintro e w10 ⟨xw, rfl, _, hcu, hch⟩
        have hX10 := Lib.hid (CB.chgD (show CB 56 (w8.setCell ⟨gB, 4, none⟩ (.int .i64 (lo + xm))) gB (In.enc ⟨s, d, (xa), 0, (lo + xm)⟩) from hX9.out) hch (.inr (by have := hgg.out; have := hBR.out; omega)))
        have hY10 := Lib.hid (CB.chgD (show CB 56 (w8.setCell ⟨gB, 4, none⟩ (.int .i64 (lo + xm))) gR (In.enc ⟨ByteArray.empty, 0, 0, 0, 0⟩) from hY9.out) hch (.inr (by have := hgg.out; omega)))
        have hC10 := Lib.hid hcu
        have hH10 := Lib.hid (hH9.out.trans hch)
        clear hcu hch hX9 hY9 hC9 hH9
        have f11 := CB.frozen (show CB 56 w10 gB (In.enc ⟨s, d, (xa), 0, (lo + xm)⟩) from hX10.out) 4
        have o11 := (CB.cell (show CB 56 w10 gB (In.enc ⟨s, d, (xa), 0, (lo + xm)⟩) from hX10.out) 4).trans (rfl : _ = some (Value.int .i64 ((lo + xm))))
        have hX11 : Hid (XB (w10.setCell ⟨gB, 4, none⟩ (.int .i64 (xw))) gB ⟨s, d, (xa), 0, (xw)⟩) := CB.set (show CB 56 w10 gB (In.enc ⟨s, d, (xa), 0, (lo + xm)⟩) from hX10.out) 4 (.int .i64 (xw))
        have hY11 : Hid (XB (w10.setCell ⟨gB, 4, none⟩ (.int .i64 (xw))) gR ⟨ByteArray.empty, 0, 0, 0, 0⟩) := CB.farD (show CB 56 w10 gR (In.enc ⟨ByteArray.empty, 0, 0, 0, 0⟩) from hY10.out) (p := ⟨gB, 4, none⟩) (by show gB ≠ gR; have := hBR.out; omega) _
        have hC11 : Hid (Cur (w10.setCell ⟨gB, 4, none⟩ (.int .i64 (xw))) g (K + 12)) := hC10.out.far (p := ⟨gB, 4, none⟩) (by show g < gB; have := hgg.out; have := hBR.out; omega) _
        have hH11 : Hid (Chg g (g + 1) w (w10.setCell ⟨gB, 4, none⟩ (.int .i64 (xw)))) := hH10.out.newD (p := ⟨gB, 4, none⟩) (by show w.heap.size ≤ gB; have := hRw.out; have := hBR.out; omega) _
        clear hX10 hY10 hC10 hH10
        obtain ⟨x0, x1, x2, x3, x4⟩ := XB.cells hX11.out
        simp only at x0 x1 x2 x3 x4
        have p0 := CB.frozen (show CB 56 (w10.setCell ⟨gB, 4, none⟩ (.int .i64 (xw))) gR (In.enc ⟨ByteArray.empty, 0, 0, 0, 0⟩) from hY11.out) 0
        have p1 := CB.frozen (show CB 56 (w10.setCell ⟨gB, 4, none⟩ (.int .i64 (xw))) gR (In.enc ⟨ByteArray.empty, 0, 0, 0, 0⟩) from hY11.out) 1
        have p2 := CB.frozen (show CB 56 (w10.setCell ⟨gB, 4, none⟩ (.int .i64 (xw))) gR (In.enc ⟨ByteArray.empty, 0, 0, 0, 0⟩) from hY11.out) 2
        have p3 := CB.frozen (show CB 56 (w10.setCell ⟨gB, 4, none⟩ (.int .i64 (xw))) gR (In.enc ⟨ByteArray.empty, 0, 0, 0, 0⟩) from hY11.out) 3
        have p4 := CB.frozen (show CB 56 (w10.setCell ⟨gB, 4, none⟩ (.int .i64 (xw))) gR (In.enc ⟨ByteArray.empty, 0, 0, 0, 0⟩) from hY11.out) 4
        obtain ⟨y0, y1, y2, y3, y4⟩ := XB.cells hY11.out
        simp only at y0 y1 y2 y3 y4
        have hne : ¬ gR = gB := by have := hBR.out; omega
        have hne2 : ¬ gB = gR := by have := hBR.out; omega
        go_wp2
        refine bodyPost_ret (v := .agg #[.string s, .int .i64 (d), .int .i64 ((xa)), .int .i64 (0), .int .i64 ((xw))]) ?_ rfl ⟨⟨s, d, (xa), 0, (xw)⟩, rfl, hsz.out, ?_, ?_⟩
        · obtain ⟨z0, z1, z2, z3, z4⟩ := (XB.five' ⟨s, d, (xa), 0, (xw)⟩ hY11.out).cells
          generalize (World.setCell _ ⟨gR, 4, none⟩ _) = W at z0 z1 z2 z3 z4 ⊢
          simp only at z0 z1 z2 z3 z4
          simp [results, Try.results234, go_sem, z0, z1, z2, z3, z4]
        · have hcu := hC11.out.more (show K + 12 ≤ K + 14 by omega)
          exact ((((hcu.far (p := ⟨gR, 0, none⟩) hgg.out _).far (p := ⟨gR, 1, none⟩) hgg.out _).far (p := ⟨gR, 2, none⟩) hgg.out _).far (p := ⟨gR, 3, none⟩) hgg.out _).far (p := ⟨gR, 4, none⟩) hgg.out _
        · exact ((((hH11.out.newD (p := ⟨gR, 0, none⟩) hRw.out _).newD (p := ⟨gR, 1, none⟩) hRw.out _).newD (p := ⟨gR, 2, none⟩) hRw.out _).newD (p := ⟨gR, 3, none⟩) hRw.out _).newD (p := ⟨gR, 4, none⟩) hRw.out _
      · have h63' := Lib.hid h63
        clear h63
        rw [hm2]
        have hs1 : IntKind.i64.wrap (hi - lo) = hi - lo := IntWalk.i64_in _ (by omega)
        have hs2 : IntKind.i64.wrap (hi - lo + 1) = hi - lo + 1 := IntWalk.i64_in _ (by omega)
        have hs0 : (hi == 63) = false := by have := h63'.out; simpa using this
        go_wp2_with (fail)
        with_reducible refine (HP.out (K + 6) (hi - lo + 1) w7 (by omega) (by omega) hC7.out).mono ?_
        rintro e w8 ⟨xm, rfl, hxm, hcu, hch⟩
        have hX8 := Lib.hid (CB.chgD (show CB 56 w7 gB (In.enc ⟨s, d, (xa), 0, 0⟩) from hX7.out) hch (.inr (by have := hgg.out; have := hBR.out; omega)))
        have hY8 := Lib.hid (CB.chgD (show CB 56 w7 gR (In.enc ⟨ByteArray.empty, 0, 0, 0, 0⟩) from hY7.out) hch (.inr (by have := hgg.out; omega)))
        have hC8 := Lib.hid hcu
        have hH8 := Lib.hid (hH7.out.trans hch)
        clear hcu hch hX7 hY7 hC7 hH7
        have hs3 : IntKind.i64.wrap (lo + xm) = lo + xm := IntWalk.i64_in _ (by omega)
        have f9 := CB.frozen (show CB 56 w8 gB (In.enc ⟨s, d, (xa), 0, 0⟩) from hX8.out) 4
        have o9 := (CB.cell (show CB 56 w8 gB (In.enc ⟨s, d, (xa), 0, 0⟩) from hX8.out) 4).trans (rfl : _ = some (Value.int .i64 (0)))
        have hX9 : Hid (XB (w8.setCell ⟨gB, 4, none⟩ (.int .i64 (lo + xm))) gB ⟨s, d, (xa), 0, (lo + xm)⟩) := CB.set (show CB 56 w8 gB (In.enc ⟨s, d, (xa), 0, 0⟩) from hX8.out) 4 (.int .i64 (lo + xm))
        have hY9 : Hid (XB (w8.setCell ⟨gB, 4, none⟩ (.int .i64 (lo + xm))) gR ⟨ByteArray.empty, 0, 0, 0, 0⟩) := CB.farD (show CB 56 w8 gR (In.enc ⟨ByteArray.empty, 0, 0, 0, 0⟩) from hY8.out) (p := ⟨gB, 4, none⟩) (by show gB ≠ gR; have := hBR.out; omega) _
        have hC9 : Hid (Cur (w8.setCell ⟨gB, 4, none⟩ (.int .i64 (lo + xm))) g (K + 8)) := hC8.out.far (p := ⟨gB, 4, none⟩) (by show g < gB; have := hgg.out; have := hBR.out; omega) _
        have hH9 : Hid (Chg g (g + 1) w (w8.setCell ⟨gB, 4, none⟩ (.int .i64 (lo + xm)))) := hH8.out.newD (p := ⟨gB, 4, none⟩) (by show w.heap.size ≤ gB; have := hRw.out; have := hBR.out; omega) _
        clear hX8 hY8 hC8 hH8
        obtain ⟨x0, x1, x2, x3, x4⟩ := XB.cells hX9.out
        simp only at x0 x1 x2 x3 x4
        have p0 := CB.frozen (show CB 56 (w8.setCell ⟨gB, 4, none⟩ (.int .i64 (lo + xm))) gR (In.enc ⟨ByteArray.empty, 0, 0, 0, 0⟩) from hY9.out) 0
        have p1 := CB.frozen (show CB 56 (w8.setCell ⟨gB, 4, none⟩ (.int .i64 (lo + xm))) gR (In.enc ⟨ByteArray.empty, 0, 0, 0, 0⟩) from hY9.out) 1
        have p2 := CB.frozen (show CB 56 (w8.setCell ⟨gB, 4, none⟩ (.int .i64 (lo + xm))) gR (In.enc ⟨ByteArray.empty, 0, 0, 0, 0⟩) from hY9.out) 2
        have p3 := CB.frozen (show CB 56 (w8.setCell ⟨gB, 4, none⟩ (.int .i64 (lo + xm))) gR (In.enc ⟨ByteArray.empty, 0, 0, 0, 0⟩) from hY9.out) 3
        have p4 := CB.frozen (show CB 56 (w8.setCell ⟨gB, 4, none⟩ (.int .i64 (lo + xm))) gR (In.enc ⟨ByteArray.empty, 0, 0, 0, 0⟩) from hY9.out) 4
        obtain ⟨y0, y1, y2, y3, y4⟩ := XB.cells hY9.out
        simp only at y0 y1 y2 y3 y4
        have hne : ¬ gR = gB := by have := hBR.out; omega
        have hne2 : ¬ gB = gR := by have := hBR.out; omega
        go_wp2
        refine bodyPost_ret (v := .agg #[.string s, .int .i64 (d), .int .i64 ((xa)), .int .i64 (0), .int .i64 ((lo + xm))]) ?_ rfl ⟨⟨s, d, (xa), 0, (lo + xm)⟩, rfl, hsz.out, ?_, ?_⟩
        · obtain ⟨z0, z1, z2, z3, z4⟩ := (XB.five' ⟨s, d, (xa), 0, (lo + xm)⟩ hY9.out).cells
          generalize (World.setCell _ ⟨gR, 4, none⟩ _) = W at z0 z1 z2 z3 z4 ⊢
          simp only at z0 z1 z2 z3 z4
          simp [results, Try.results234, go_sem, z0, z1, z2, z3, z4]
        · have hcu := hC9.out.more (show K + 8 ≤ K + 14 by omega)
          exact ((((hcu.far (p := ⟨gR, 0, none⟩) hgg.out _).far (p := ⟨gR, 1, none⟩) hgg.out _).far (p := ⟨gR, 2, none⟩) hgg.out _).far (p := ⟨gR, 3, none⟩) hgg.out _).far (p := ⟨gR, 4, none⟩) hgg.out _
        · exact ((((hH9.out.newD (p := ⟨gR, 0, none⟩) hRw.out _).newD (p := ⟨gR, 1, none⟩) hRw.out _).newD (p := ⟨gR, 2, none⟩) hRw.out _).newD (p := ⟨gR, 3, none⟩) hRw.out _).newD (p := ⟨gR, 4, none⟩) hRw.out _
    · have hm2 : decide (0 < hi) = false := decide_eq_false hm
      rw [hm2]
      obtain ⟨x0, x1, x2, x3, x4⟩ := XB.cells hX7.out
      simp only at x0 x1 x2 x3 x4
      have p0 := CB.frozen (show CB 56 w7 gR (In.enc ⟨ByteArray.empty, 0, 0, 0, 0⟩) from hY7.out) 0
      have p1 := CB.frozen (show CB 56 w7 gR (In.enc ⟨ByteArray.empty, 0, 0, 0, 0⟩) from hY7.out) 1
      have p2 := CB.frozen (show CB 56 w7 gR (In.enc ⟨ByteArray.empty, 0, 0, 0, 0⟩) from hY7.out) 2
      have p3 := CB.frozen (show CB 56 w7 gR (In.enc ⟨ByteArray.empty, 0, 0, 0, 0⟩) from hY7.out) 3
      have p4 := CB.frozen (show CB 56 w7 gR (In.enc ⟨ByteArray.empty, 0, 0, 0, 0⟩) from hY7.out) 4
      obtain ⟨y0, y1, y2, y3, y4⟩ := XB.cells hY7.out
      simp only at y0 y1 y2 y3 y4
      have hne : ¬ gR = gB := by have := hBR.out; omega
      have hne2 : ¬ gB = gR := by have := hBR.out; omega
      go_wp2
      refine bodyPost_ret (v := .agg #[.string s, .int .i64 (d), .int .i64 ((xa)), .int .i64 (0), .int .i64 (0)]) ?_ rfl ⟨⟨s, d, (xa), 0, 0⟩, rfl, hsz.out, ?_, ?_⟩
      · obtain ⟨z0, z1, z2, z3, z4⟩ := (XB.five' ⟨s, d, (xa), 0, 0⟩ hY7.out).cells
        generalize (World.setCell _ ⟨gR, 4, none⟩ _) = W at z0 z1 z2 z3 z4 ⊢
        simp only at z0 z1 z2 z3 z4
        simp [results, Try.results234, go_sem, z0, z1, z2, z3, z4]
      · have hcu := hC7.out.more (show K + 6 ≤ K + 14 by omega)
        exact ((((hcu.far (p := ⟨gR, 0, none⟩) hgg.out _).far (p := ⟨gR, 1, none⟩) hgg.out _).far (p := ⟨gR, 2, none⟩) hgg.out _).far (p := ⟨gR, 3, none⟩) hgg.out _).far (p := ⟨gR, 4, none⟩) hgg.out _
      · exact ((((hH7.out.newD (p := ⟨gR, 0, none⟩) hRw.out _).newD (p := ⟨gR, 1, none⟩) hRw.out _).newD (p := ⟨gR, 2, none⟩) hRw.out _).newD (p := ⟨gR, 3, none⟩) hRw.out _).newD (p := ⟨gR, 4, none⟩) hRw.out _
  · go_wp2_with (fail)
    generalize w3.alloc (.cells #[.string s, .int .i64 d, .int .i64 0, .int .i64 0, .int .i64 0] 56) = W4 at *
    try rw [eB]
    clear eB
    with_reducible refine (HP.out (K + 4) regs W4 (by omega) (by omega) hC4.out).mono ?_
    rintro e w5 ⟨xa, rfl, _, hcu, hch⟩
    have hX5 := Lib.hid (CB.chgD (show CB 56 W4 gB (In.enc ⟨s, d, 0, 0, 0⟩) from hX4.out) hch (.inr (by have := hgg.out; have := hBR.out; omega)))
    have hY5 := Lib.hid (CB.chgD (show CB 56 W4 gR (In.enc ⟨ByteArray.empty, 0, 0, 0, 0⟩) from hY4.out) hch (.inr (by have := hgg.out; omega)))
    have hC5 := Lib.hid hcu
    have hH5 := Lib.hid (hH4.out.trans hch)
    clear hcu hch hX4 hY4 hC4 hH4
    have f6 := CB.frozen (show CB 56 w5 gB (In.enc ⟨s, d, 0, 0, 0⟩) from hX5.out) 2
    have o6 := (CB.cell (show CB 56 w5 gB (In.enc ⟨s, d, 0, 0, 0⟩) from hX5.out) 2).trans (rfl : _ = some (Value.int .i64 (0)))
    have hX6 : Hid (XB (w5.setCell ⟨gB, 2, none⟩ (.int .i64 (xa))) gB ⟨s, d, (xa), 0, 0⟩) := CB.set (show CB 56 w5 gB (In.enc ⟨s, d, 0, 0, 0⟩) from hX5.out) 2 (.int .i64 (xa))
    have hY6 : Hid (XB (w5.setCell ⟨gB, 2, none⟩ (.int .i64 (xa))) gR ⟨ByteArray.empty, 0, 0, 0, 0⟩) := CB.farD (show CB 56 w5 gR (In.enc ⟨ByteArray.empty, 0, 0, 0, 0⟩) from hY5.out) (p := ⟨gB, 2, none⟩) (by show gB ≠ gR; have := hBR.out; omega) _
    have hC6 : Hid (Cur (w5.setCell ⟨gB, 2, none⟩ (.int .i64 (xa))) g (K + 6)) := hC5.out.far (p := ⟨gB, 2, none⟩) (by show g < gB; have := hgg.out; have := hBR.out; omega) _
    have hH6 : Hid (Chg g (g + 1) w (w5.setCell ⟨gB, 2, none⟩ (.int .i64 (xa)))) := hH5.out.newD (p := ⟨gB, 2, none⟩) (by show w.heap.size ≤ gB; have := hRw.out; have := hBR.out; omega) _
    clear hX5 hY5 hC5 hH5
    go_wp2_with (fail)
    with_reducible refine (HP.out (K + 6) regs (w5.setCell ⟨gB, 2, none⟩ (.int .i64 (xa))) (by omega) (by omega) hC6.out).mono ?_
    rintro e w7 ⟨xb, rfl, _, hcu, hch⟩
    have hX7 := Lib.hid (CB.chgD (show CB 56 (w5.setCell ⟨gB, 2, none⟩ (.int .i64 (xa))) gB (In.enc ⟨s, d, (xa), 0, 0⟩) from hX6.out) hch (.inr (by have := hgg.out; have := hBR.out; omega)))
    have hY7 := Lib.hid (CB.chgD (show CB 56 (w5.setCell ⟨gB, 2, none⟩ (.int .i64 (xa))) gR (In.enc ⟨ByteArray.empty, 0, 0, 0, 0⟩) from hY6.out) hch (.inr (by have := hgg.out; omega)))
    have hC7 := Lib.hid hcu
    have hH7 := Lib.hid (hH6.out.trans hch)
    clear hcu hch hX6 hY6 hC6 hH6
    have f8 := CB.frozen (show CB 56 w7 gB (In.enc ⟨s, d, (xa), 0, 0⟩) from hX7.out) 3
    have o8 := (CB.cell (show CB 56 w7 gB (In.enc ⟨s, d, (xa), 0, 0⟩) from hX7.out) 3).trans (rfl : _ = some (Value.int .i64 (0)))
    have hX8 : Hid (XB (w7.setCell ⟨gB, 3, none⟩ (.int .i64 (xb))) gB ⟨s, d, (xa), (xb), 0⟩) := CB.set (show CB 56 w7 gB (In.enc ⟨s, d, (xa), 0, 0⟩) from hX7.out) 3 (.int .i64 (xb))
    have hY8 : Hid (XB (w7.setCell ⟨gB, 3, none⟩ (.int .i64 (xb))) gR ⟨ByteArray.empty, 0, 0, 0, 0⟩) := CB.farD (show CB 56 w7 gR (In.enc ⟨ByteArray.empty, 0, 0, 0, 0⟩) from hY7.out) (p := ⟨gB, 3, none⟩) (by show gB ≠ gR; have := hBR.out; omega) _
    have hC8 : Hid (Cur (w7.setCell ⟨gB, 3, none⟩ (.int .i64 (xb))) g (K + 8)) := hC7.out.far (p := ⟨gB, 3, none⟩) (by show g < gB; have := hgg.out; have := hBR.out; omega) _
    have hH8 : Hid (Chg g (g + 1) w (w7.setCell ⟨gB, 3, none⟩ (.int .i64 (xb)))) := hH7.out.newD (p := ⟨gB, 3, none⟩) (by show w.heap.size ≤ gB; have := hRw.out; have := hBR.out; omega) _
    clear hX7 hY7 hC7 hH7
    go_wp2_with (fail)
    with_reducible refine (HI.out (w7.setCell ⟨gB, 3, none⟩ (.int .i64 (xb)))).mono ?_
    rintro e w9 ⟨rfl, hbe⟩
    have hX9 := Lib.hid (CB.below (show CB 56 (w7.setCell ⟨gB, 3, none⟩ (.int .i64 (xb))) gB (In.enc ⟨s, d, (xa), (xb), 0⟩) from hX8.out) hbe (CB.lt hX8.out))
    have hY9 := Lib.hid (CB.below (show CB 56 (w7.setCell ⟨gB, 3, none⟩ (.int .i64 (xb))) gR (In.enc ⟨ByteArray.empty, 0, 0, 0, 0⟩) from hY8.out) hbe (CB.lt hY8.out))
    have hC9 := Lib.hid (hC8.out.below hbe)
    have hH9 := Lib.hid (hH8.out.trans (Chg.ofBelow hbe))
    clear hbe hX8 hY8 hC8 hH8
    by_cases hm : 0 < hi
    · have hm2 : decide (0 < hi) = true := decide_eq_true hm
      by_cases h63 : hi = 63
      · subst h63
        rw [hm2]
        have hs1 : IntKind.i64.wrap (63 - lo) = 63 - lo := IntWalk.i64_in _ (by omega)
        have hs2 : IntKind.i64.wrap (63 - lo + 1) = 63 - lo + 1 := IntWalk.i64_in _ (by omega)
        go_wp2_with (fail)
        with_reducible refine (HP.out (K + 8) (63 - lo + 1) w9 (by omega) (by omega) hC9.out).mono ?_
        rintro e w10 ⟨xm, rfl, hxm, hcu, hch⟩
        have hX10 := Lib.hid (CB.chgD (show CB 56 w9 gB (In.enc ⟨s, d, (xa), (xb), 0⟩) from hX9.out) hch (.inr (by have := hgg.out; have := hBR.out; omega)))
        have hY10 := Lib.hid (CB.chgD (show CB 56 w9 gR (In.enc ⟨ByteArray.empty, 0, 0, 0, 0⟩) from hY9.out) hch (.inr (by have := hgg.out; omega)))
        have hC10 := Lib.hid hcu
        have hH10 := Lib.hid (hH9.out.trans hch)
        clear hcu hch hX9 hY9 hC9 hH9
        have hs3 : IntKind.i64.wrap (lo + xm) = lo + xm := IntWalk.i64_in _ (by omega)
        have f11 := CB.frozen (show CB 56 w10 gB (In.enc ⟨s, d, (xa), (xb), 0⟩) from hX10.out) 4
        have o11 := (CB.cell (show CB 56 w10 gB (In.enc ⟨s, d, (xa), (xb), 0⟩) from hX10.out) 4).trans (rfl : _ = some (Value.int .i64 (0)))
        have hX11 : Hid (XB (w10.setCell ⟨gB, 4, none⟩ (.int .i64 (lo + xm))) gB ⟨s, d, (xa), (xb), (lo + xm)⟩) := CB.set (show CB 56 w10 gB (In.enc ⟨s, d, (xa), (xb), 0⟩) from hX10.out) 4 (.int .i64 (lo + xm))
        have hY11 : Hid (XB (w10.setCell ⟨gB, 4, none⟩ (.int .i64 (lo + xm))) gR ⟨ByteArray.empty, 0, 0, 0, 0⟩) := CB.farD (show CB 56 w10 gR (In.enc ⟨ByteArray.empty, 0, 0, 0, 0⟩) from hY10.out) (p := ⟨gB, 4, none⟩) (by show gB ≠ gR; have := hBR.out; omega) _
        have hC11 : Hid (Cur (w10.setCell ⟨gB, 4, none⟩ (.int .i64 (lo + xm))) g (K + 10)) := hC10.out.far (p := ⟨gB, 4, none⟩) (by show g < gB; have := hgg.out; have := hBR.out; omega) _
        have hH11 : Hid (Chg g (g + 1) w (w10.setCell ⟨gB, 4, none⟩ (.int .i64 (lo + xm)))) := hH10.out.newD (p := ⟨gB, 4, none⟩) (by show w.heap.size ≤ gB; have := hRw.out; have := hBR.out; omega) _
        clear hX10 hY10 hC10 hH10
        go_wp2_with (fail)
        with_reducible refine (HW.out (K + 10) (w10.setCell ⟨gB, 4, none⟩ (.int .i64 (lo + xm))) (by omega) hC11.out).mono ?_
        rintro e w12 ⟨xw, rfl, _, hcu, hch⟩
        have hX12 := Lib.hid (CB.chgD (show CB 56 (w10.setCell ⟨gB, 4, none⟩ (.int .i64 (lo + xm))) gB (In.enc ⟨s, d, (xa), (xb), (lo + xm)⟩) from hX11.out) hch (.inr (by have := hgg.out; have := hBR.out; omega)))
        have hY12 := Lib.hid (CB.chgD (show CB 56 (w10.setCell ⟨gB, 4, none⟩ (.int .i64 (lo + xm))) gR (In.enc ⟨ByteArray.empty, 0, 0, 0, 0⟩) from hY11.out) hch (.inr (by have := hgg.out; omega)))
        have hC12 := Lib.hid hcu
        have hH12 := Lib.hid (hH11.out.trans hch)
        clear hcu hch hX11 hY11 hC11 hH11
        have f13 := CB.frozen (show CB 56 w12 gB (In.enc ⟨s, d, (xa), (xb), (lo + xm)⟩) from hX12.out) 4
        have o13 := (CB.cell (show CB 56 w12 gB (In.enc ⟨s, d, (xa), (xb), (lo + xm)⟩) from hX12.out) 4).trans (rfl : _ = some (Value.int .i64 ((lo + xm))))
        have hX13 : Hid (XB (w12.setCell ⟨gB, 4, none⟩ (.int .i64 (xw))) gB ⟨s, d, (xa), (xb), (xw)⟩) := CB.set (show CB 56 w12 gB (In.enc ⟨s, d, (xa), (xb), (lo + xm)⟩) from hX12.out) 4 (.int .i64 (xw))
        have hY13 : Hid (XB (w12.setCell ⟨gB, 4, none⟩ (.int .i64 (xw))) gR ⟨ByteArray.empty, 0, 0, 0, 0⟩) := CB.farD (show CB 56 w12 gR (In.enc ⟨ByteArray.empty, 0, 0, 0, 0⟩) from hY12.out) (p := ⟨gB, 4, none⟩) (by show gB ≠ gR; have := hBR.out; omega) _
        have hC13 : Hid (Cur (w12.setCell ⟨gB, 4, none⟩ (.int .i64 (xw))) g (K + 14)) := hC12.out.far (p := ⟨gB, 4, none⟩) (by show g < gB; have := hgg.out; have := hBR.out; omega) _
        have hH13 : Hid (Chg g (g + 1) w (w12.setCell ⟨gB, 4, none⟩ (.int .i64 (xw)))) := hH12.out.newD (p := ⟨gB, 4, none⟩) (by show w.heap.size ≤ gB; have := hRw.out; have := hBR.out; omega) _
        clear hX12 hY12 hC12 hH12
        obtain ⟨x0, x1, x2, x3, x4⟩ := XB.cells hX13.out
        simp only at x0 x1 x2 x3 x4
        have p0 := CB.frozen (show CB 56 (w12.setCell ⟨gB, 4, none⟩ (.int .i64 (xw))) gR (In.enc ⟨ByteArray.empty, 0, 0, 0, 0⟩) from hY13.out) 0
        have p1 := CB.frozen (show CB 56 (w12.setCell ⟨gB, 4, none⟩ (.int .i64 (xw))) gR (In.enc ⟨ByteArray.empty, 0, 0, 0, 0⟩) from hY13.out) 1
        have p2 := CB.frozen (show CB 56 (w12.setCell ⟨gB, 4, none⟩ (.int .i64 (xw))) gR (In.enc ⟨ByteArray.empty, 0, 0, 0, 0⟩) from hY13.out) 2
        have p3 := CB.frozen (show CB 56 (w12.setCell ⟨gB, 4, none⟩ (.int .i64 (xw))) gR (In.enc ⟨ByteArray.empty, 0, 0, 0, 0⟩) from hY13.out) 3
        have p4 := CB.frozen (show CB 56 (w12.setCell ⟨gB, 4, none⟩ (.int .i64 (xw))) gR (In.enc ⟨ByteArray.empty, 0, 0, 0, 0⟩) from hY13.out) 4
        obtain ⟨y0, y1, y2, y3, y4⟩ := XB.cells hY13.out
        simp only at y0 y1 y2 y3 y4
        have hne : ¬ gR = gB := by have := hBR.out; omega
        have hne2 : ¬ gB = gR := by have := hBR.out; omega
        go_wp2
        refine bodyPost_ret (v := .agg #[.string s, .int .i64 (d), .int .i64 ((xa)), .int .i64 ((xb)), .int .i64 ((xw))]) ?_ rfl ⟨⟨s, d, (xa), (xb), (xw)⟩, rfl, hsz.out, ?_, ?_⟩
        · obtain ⟨z0, z1, z2, z3, z4⟩ := (XB.five' ⟨s, d, (xa), (xb), (xw)⟩ hY13.out).cells
          generalize (World.setCell _ ⟨gR, 4, none⟩ _) = W at z0 z1 z2 z3 z4 ⊢
          simp only at z0 z1 z2 z3 z4
          simp [results, Try.results234, go_sem, z0, z1, z2, z3, z4]
        · have hcu := hC13.out.more (show K + 14 ≤ K + 14 by omega)
          exact ((((hcu.far (p := ⟨gR, 0, none⟩) hgg.out _).far (p := ⟨gR, 1, none⟩) hgg.out _).far (p := ⟨gR, 2, none⟩) hgg.out _).far (p := ⟨gR, 3, none⟩) hgg.out _).far (p := ⟨gR, 4, none⟩) hgg.out _
        · exact ((((hH13.out.newD (p := ⟨gR, 0, none⟩) hRw.out _).newD (p := ⟨gR, 1, none⟩) hRw.out _).newD (p := ⟨gR, 2, none⟩) hRw.out _).newD (p := ⟨gR, 3, none⟩) hRw.out _).newD (p := ⟨gR, 4, none⟩) hRw.out _
      · have h63' := Lib.hid h63
        clear h63
        rw [hm2]
        have hs1 : IntKind.i64.wrap (hi - lo) = hi - lo := IntWalk.i64_in _ (by omega)
        have hs2 : IntKind.i64.wrap (hi - lo + 1) = hi - lo + 1 := IntWalk.i64_in _ (by omega)
        have hs0 : (hi == 63) = false := by have := h63'.out; simpa using this
        go_wp2_with (fail)
        with_reducible refine (HP.out (K + 8) (hi - lo + 1) w9 (by omega) (by omega) hC9.out).mono ?_
        rintro e w10 ⟨xm, rfl, hxm, hcu, hch⟩
        have hX10 := Lib.hid (CB.chgD (show CB 56 w9 gB (In.enc ⟨s, d, (xa), (xb), 0⟩) from hX9.out) hch (.inr (by have := hgg.out; have := hBR.out; omega)))
        have hY10 := Lib.hid (CB.chgD (show CB 56 w9 gR (In.enc ⟨ByteArray.empty, 0, 0, 0, 0⟩) from hY9.out) hch (.inr (by have := hgg.out; omega)))
        have hC10 := Lib.hid hcu
        have hH10 := Lib.hid (hH9.out.trans hch)
        clear hcu hch hX9 hY9 hC9 hH9
        have hs3 : IntKind.i64.wrap (lo + xm) = lo + xm := IntWalk.i64_in _ (by omega)
        have f11 := CB.frozen (show CB 56 w10 gB (In.enc ⟨s, d, (xa), (xb), 0⟩) from hX10.out) 4
        have o11 := (CB.cell (show CB 56 w10 gB (In.enc ⟨s, d, (xa), (xb), 0⟩) from hX10.out) 4).trans (rfl : _ = some (Value.int .i64 (0)))
        have hX11 : Hid (XB (w10.setCell ⟨gB, 4, none⟩ (.int .i64 (lo + xm))) gB ⟨s, d, (xa), (xb), (lo + xm)⟩) := CB.set (show CB 56 w10 gB (In.enc ⟨s, d, (xa), (xb), 0⟩) from hX10.out) 4 (.int .i64 (lo + xm))
        have hY11 : Hid (XB (w10.setCell ⟨gB, 4, none⟩ (.int .i64 (lo + xm))) gR ⟨ByteArray.empty, 0, 0, 0, 0⟩) := CB.farD (show CB 56 w10 gR (In.enc ⟨ByteArray.empty, 0, 0, 0, 0⟩) from hY10.out) (p := ⟨gB, 4, none⟩) (by show gB ≠ gR; have := hBR.out; omega) _
        have hC11 : Hid (Cur (w10.setCell ⟨gB, 4, none⟩ (.int .i64 (lo + xm))) g (K + 10)) := hC10.out.far (p := ⟨gB, 4, none⟩) (by show g < gB; have := hgg.out; have := hBR.out; omega) _
        have hH11 : Hid (Chg g (g + 1) w (w10.setCell ⟨gB, 4, none⟩ (.int .i64 (lo + xm)))) := hH10.out.newD (p := ⟨gB, 4, none⟩) (by show w.heap.size ≤ gB; have := hRw.out; have := hBR.out; omega) _
        clear hX10 hY10 hC10 hH10
        obtain ⟨x0, x1, x2, x3, x4⟩ := XB.cells hX11.out
        simp only at x0 x1 x2 x3 x4
        have p0 := CB.frozen (show CB 56 (w10.setCell ⟨gB, 4, none⟩ (.int .i64 (lo + xm))) gR (In.enc ⟨ByteArray.empty, 0, 0, 0, 0⟩) from hY11.out) 0
        have p1 := CB.frozen (show CB 56 (w10.setCell ⟨gB, 4, none⟩ (.int .i64 (lo + xm))) gR (In.enc ⟨ByteArray.empty, 0, 0, 0, 0⟩) from hY11.out) 1
        have p2 := CB.frozen (show CB 56 (w10.setCell ⟨gB, 4, none⟩ (.int .i64 (lo + xm))) gR (In.enc ⟨ByteArray.empty, 0, 0, 0, 0⟩) from hY11.out) 2
        have p3 := CB.frozen (show CB 56 (w10.setCell ⟨gB, 4, none⟩ (.int .i64 (lo + xm))) gR (In.enc ⟨ByteArray.empty, 0, 0, 0, 0⟩) from hY11.out) 3
        have p4 := CB.frozen (show CB 56 (w10.setCell ⟨gB, 4, none⟩ (.int .i64 (lo + xm))) gR (In.enc ⟨ByteArray.empty, 0, 0, 0, 0⟩) from hY11.out) 4
        obtain ⟨y0, y1, y2, y3, y4⟩ := XB.cells hY11.out
        simp only at y0 y1 y2 y3 y4
        have hne : ¬ gR = gB := by have := hBR.out; omega
        have hne2 : ¬ gB = gR := by have := hBR.out; omega
        go_wp2
        refine bodyPost_ret (v := .agg #[.string s, .int .i64 (d), .int .i64 ((xa)), .int .i64 ((xb)), .int .i64 ((lo + xm))]) ?_ rfl ⟨⟨s, d, (xa), (xb), (lo + xm)⟩, rfl, hsz.out, ?_, ?_⟩
        · obtain ⟨z0, z1, z2, z3, z4⟩ := (XB.five' ⟨s, d, (xa), (xb), (lo + xm)⟩ hY11.out).cells
          generalize (World.setCell _ ⟨gR, 4, none⟩ _) = W at z0 z1 z2 z3 z4 ⊢
          simp only at z0 z1 z2 z3 z4
          simp [results, Try.results234, go_sem, z0, z1, z2, z3, z4]
        · have hcu := hC11.out.more (show K + 10 ≤ K + 14 by omega)
          exact ((((hcu.far (p := ⟨gR, 0, none⟩) hgg.out _).far (p := ⟨gR, 1, none⟩) hgg.out _).far (p := ⟨gR, 2, none⟩) hgg.out _).far (p := ⟨gR, 3, none⟩) hgg.out _).far (p := ⟨gR, 4, none⟩) hgg.out _
        · exact ((((hH11.out.newD (p := ⟨gR, 0, none⟩) hRw.out _).newD (p := ⟨gR, 1, none⟩) hRw.out _).newD (p := ⟨gR, 2, none⟩) hRw.out _).newD (p := ⟨gR, 3, none⟩) hRw.out _).newD (p := ⟨gR, 4, none⟩) hRw.out _
    · have hm2 : decide (0 < hi) = false := decide_eq_false hm
      rw [hm2]
      obtain ⟨x0, x1, x2, x3, x4⟩ := XB.cells hX9.out
      simp only at x0 x1 x2 x3 x4
      have p0 := CB.frozen (show CB 56 w9 gR (In.enc ⟨ByteArray.empty, 0, 0, 0, 0⟩) from hY9.out) 0
      have p1 := CB.frozen (show CB 56 w9 gR (In.enc ⟨ByteArray.empty, 0, 0, 0, 0⟩) from hY9.out) 1
      have p2 := CB.frozen (show CB 56 w9 gR (In.enc ⟨ByteArray.empty, 0, 0, 0, 0⟩) from hY9.out) 2
      have p3 := CB.frozen (show CB 56 w9 gR (In.enc ⟨ByteArray.empty, 0, 0, 0, 0⟩) from hY9.out) 3
      have p4 := CB.frozen (show CB 56 w9 gR (In.enc ⟨ByteArray.empty, 0, 0, 0, 0⟩) from hY9.out) 4
      obtain ⟨y0, y1, y2, y3, y4⟩ := XB.cells hY9.out
      simp only at y0 y1 y2 y3 y4
      have hne : ¬ gR = gB := by have := hBR.out; omega
      have hne2 : ¬ gB = gR := by have := hBR.out; omega
      go_wp2
      refine bodyPost_ret (v := .agg #[.string s, .int .i64 (d), .int .i64 ((xa)), .int .i64 ((xb)), .int .i64 (0)]) ?_ rfl ⟨⟨s, d, (xa), (xb), 0⟩, rfl, hsz.out, ?_, ?_⟩
      · obtain ⟨z0, z1, z2, z3, z4⟩ := (XB.five' ⟨s, d, (xa), (xb), 0⟩ hY9.out).cells
        generalize (World.setCell _ ⟨gR, 4, none⟩ _) = W at z0 z1 z2 z3 z4 ⊢
        simp only at z0 z1 z2 z3 z4
        simp [results, Try.results234, go_sem, z0, z1, z2, z3, z4]
      · have hcu := hC9.out.more (show K + 8 ≤ K + 14 by omega)
        exact ((((hcu.far (p := ⟨gR, 0, none⟩) hgg.out _).far (p := ⟨gR, 1, none⟩) hgg.out _).far (p := ⟨gR, 2, none⟩) hgg.out _).far (p := ⟨gR, 3, none⟩) hgg.out _).far (p := ⟨gR, 4, none⟩) hgg.out _
      · exact ((((hH9.out.newD (p := ⟨gR, 0, none⟩) hRw.out _).newD (p := ⟨gR, 1, none⟩) hRw.out _).newD (p := ⟨gR, 2, none⟩) hRw.out _).newD (p := ⟨gR, 3, none⟩) hRw.out _).newD (p := ⟨gR, 4, none⟩) hRw.out _
end Go.Proofs.Ytmhdijklindipaa

/- Drawn instructions, and what is near one. -/
namespace Go.Proofs.Ytmhdijklindipaa
open Go.RowKit
set_option linter.unusedVariables false
set_option maxRecDepth 100000

def an1 : List Int := [-1, 6]
def an2 : List Int := [-1, 0, 6, 4611686018427387904]
def an3 : List Int := [-1, 0, 1, 6]
def an4 : List Int := [-1, 0, 1, 3, 4, 5, 6, 63, 64]
def ops5 : List ByteArray := [⟨#[]⟩, ⟨#[99,111,110,115,116]⟩, ⟨#[110,111,112]⟩, ⟨#[115,101,116]⟩, ⟨#[108,101,97]⟩]
theorem ops5_size : ∀ s ∈ ops5, s.size ≤ 100 := by decide
theorem ops5_cells : (ops5.flatMap encD).toArray = #[.string ⟨#[]⟩, .string ⟨#[99,111,110,115,116]⟩, .string ⟨#[110,111,112]⟩, .string ⟨#[115,101,116]⟩, .string ⟨#[108,101,97]⟩] := rfl

set_option maxHeartbeats 16000000 in
theorem anyInstr_any (g K : Nat) (w : World) (hK : K ≤ 600000000) (hc : Cur w g K) :
    Calls Try.prog 154 #[.pointer (some ⟨g, 0, none⟩)] w (DrX w g (K + 18)) := by
  have HP := Lib.hid fun (K : Nat) (n : Int) (W : World) (hK : K ≤ 900000000) (hn : n ≤ 10000) (hc : Cur W g K) => pick_any g K n W hK hn hc
  have a0 := (Below.refl w.heap.size w).alloc (Nat.le_refl _) (.cells #[.string ⟨#[]⟩, .int .i64 0, .int .i64 0, .int .i64 0, .int .i64 0] 56)
  have hgw := hc.lt
  obtain ⟨gR, hgR⟩ : ∃ x, x = w.heap.size := ⟨_, rfl⟩
  have hY0 : XB (w.alloc (.cells #[.string ⟨#[]⟩, .int .i64 0, .int .i64 0, .int .i64 0, .int .i64 0] 56)) gR ⟨ByteArray.empty, 0, 0, 0, 0⟩ := by rw [hgR]; exact heap_alloc_new w _
  have hc0 := hc.below a0
  have hh0 : Chg g (g + 1) w (w.alloc (.cells #[.string ⟨#[]⟩, .int .i64 0, .int .i64 0, .int .i64 0, .int .i64 0] 56)) := (Chg.refl _ _ _).alloc _
  have hgg : Hid (g < gR) := by unfold Hid; omega
  have hRw : Hid (w.heap.size ≤ gR) := by unfold Hid; omega
  have eW : w.heap.size = gR := hgR.symm
  have hEW := Lib.hid eW
  clear hgR a0 hc
  go_enter Try.func154, Try.ntmps154
  go_upto_region 1 with fail
  generalize w.alloc (.cells #[.string ⟨#[]⟩, .int .i64 0, .int .i64 0, .int .i64 0, .int .i64 0] 56) = W0 at *
  try rw [eW]
  clear eW
  have HI := Lib.hid (instr_any g K 6 W0 (by omega) (by omega) hc0)
  have hH0 := Lib.hid hh0
  have hY1 := Lib.hid hY0
  clear hc0 hh0 hY0
  go_wp2_with (fail)
  with_reducible refine HI.out.mono ?_
  rintro e w2 ⟨⟨s, d, a, b, m⟩, rfl, hsz', hcu, hch⟩
  have hsz := Lib.hid hsz'
  dsimp only at hsz ⊢
  clear hsz'
  have hX2 := Lib.hid (show XB (w2.alloc (.cells #[.string s, .int .i64 d, .int .i64 a, .int .i64 b, .int .i64 m] 56)) w2.heap.size ⟨s, d, a, b, m⟩ from heap_alloc_new w2 _)
  have a2 := (Below.refl w2.heap.size w2).alloc (Nat.le_refl _) (.cells #[.string s, .int .i64 d, .int .i64 a, .int .i64 b, .int .i64 m] 56)
  have hY2 := CB.chgD (show CB 56 W0 gR (In.enc ⟨ByteArray.empty, 0, 0, 0, 0⟩) from hY1.out) hch (.inr (by have := hgg.out; omega))
  have hYl := CB.lt hY2
  have hY3 : Hid (XB (w2.alloc (.cells #[.string s, .int .i64 d, .int .i64 a, .int .i64 b, .int .i64 m] 56)) gR ⟨ByteArray.empty, 0, 0, 0, 0⟩) := CB.below hY2 a2 hYl
  have hC3 := Lib.hid (hcu.below a2)
  have hH3 := Lib.hid ((hH0.out.trans hch).alloc (.cells #[.string s, .int .i64 d, .int .i64 a, .int .i64 b, .int .i64 m] 56))
  obtain ⟨gB, hgB⟩ : ∃ x, x = w2.heap.size := ⟨_, rfl⟩
  have hBR : Hid (gR < gB) := by unfold Hid; omega
  have hX3 : Hid (XB (w2.alloc (.cells #[.string s, .int .i64 d, .int .i64 a, .int .i64 b, .int .i64 m] 56)) gB ⟨s, d, a, b, m⟩) := by rw [hgB]; exact hX2.out
  have eB := hgB.symm
  clear hgB hX2 a2 hY2 hYl hcu hch hH0 hY1
  go_wp2_with (fail)
  generalize w2.alloc (.cells #[.string s, .int .i64 d, .int .i64 a, .int .i64 b, .int .i64 m] 56) = W3 at *
  try rw [eB]
  clear eB
  with_reducible refine (HP.out (K + 14) 14 W3 (by omega) (by omega) hC3.out).mono ?_
  rintro e w4 ⟨p, rfl, hp, hcu, hch⟩
  have hX4 := Lib.hid (CB.chgD (show CB 56 W3 gB (In.enc ⟨s, d, a, b, m⟩) from hX3.out) hch (.inr (by have := hgg.out; have := hBR.out; omega)))
  have hY4 := Lib.hid (CB.chgD (show CB 56 W3 gR (In.enc ⟨ByteArray.empty, 0, 0, 0, 0⟩) from hY3.out) hch (.inr (by have := hgg.out; omega)))
  have hC4 := Lib.hid hcu
  have hH4 := Lib.hid (hH3.out.trans hch)
  clear hcu hch hX3 hY3 hC3 hH3
  have hP := Lib.hid hp
  clear hp
  by_cases q0 : p = 0
  · subst q0
    have hIS := lit_is w4 an1
    have al := (Below.refl w4.heap.size w4).alloc (Nat.le_refl _) (.cells (intCells an1) 3)
    have hX5 := Lib.hid (CB.below (show CB 56 w4 gB (In.enc ⟨s, d, a, b, m⟩) from hX4.out) al (CB.lt hX4.out))
    have hY5 := Lib.hid (CB.below (show CB 56 w4 gR (In.enc ⟨ByteArray.empty, 0, 0, 0, 0⟩) from hY4.out) al (CB.lt hY4.out))
    have hC5 := Lib.hid (hC4.out.below al)
    have hH5 := Lib.hid (hH4.out.alloc (.cells (intCells an1) 3))
    have hgl := hC4.out.lt
    clear al hX4 hY4 hC4 hH4
    have hM := Lib.hid (among_any g (K + 16) w4.heap.size (w4.heap.size + 1) (some ⟨w4.heap.size, 0, none⟩) 2 2 an1 _ rfl (by omega) hC5.out (by decide) (by decide) hIS hgl (by simp))
    clear hIS hgl
    go_wp2_with (fail)
    refine hM.out.mono ?_
    rintro e w6 ⟨v, rfl, _, hcu, hch⟩
    have hX6 := Lib.hid (CB.chgD (show CB 56 (w4.alloc (.cells (intCells an1) 3)) gB (In.enc ⟨s, d, a, b, m⟩) from hX5.out) hch (.inr (by have := hgg.out; have := hBR.out; omega)))
    have hY6 := Lib.hid (CB.chgD (show CB 56 (w4.alloc (.cells (intCells an1) 3)) gR (In.enc ⟨ByteArray.empty, 0, 0, 0, 0⟩) from hY5.out) hch (.inr (by have := hgg.out; omega)))
    have hC6 := Lib.hid hcu
    have hH6 := Lib.hid (hH5.out.trans hch)
    clear hcu hch hX5 hY5 hC5 hH5
    clear hM
    have f7 := CB.frozen (show CB 56 w6 gB (In.enc ⟨s, d, a, b, m⟩) from hX6.out) 1
    have o7 := (CB.cell (show CB 56 w6 gB (In.enc ⟨s, d, a, b, m⟩) from hX6.out) 1).trans (rfl : _ = some (Value.int .i64 (d)))
    have hX7 : Hid (XB (w6.setCell ⟨gB, 1, none⟩ (.int .i64 (v))) gB ⟨s, (v), a, b, m⟩) := CB.set (show CB 56 w6 gB (In.enc ⟨s, d, a, b, m⟩) from hX6.out) 1 (.int .i64 (v))
    have hY7 : Hid (XB (w6.setCell ⟨gB, 1, none⟩ (.int .i64 (v))) gR ⟨ByteArray.empty, 0, 0, 0, 0⟩) := CB.farD (show CB 56 w6 gR (In.enc ⟨ByteArray.empty, 0, 0, 0, 0⟩) from hY6.out) (p := ⟨gB, 1, none⟩) (by show gB ≠ gR; have := hBR.out; omega) _
    have hC7 : Hid (Cur (w6.setCell ⟨gB, 1, none⟩ (.int .i64 (v))) g (K + 18)) := hC6.out.far (p := ⟨gB, 1, none⟩) (by show g < gB; have := hgg.out; have := hBR.out; omega) _
    have hH7 : Hid (Chg g (g + 1) w (w6.setCell ⟨gB, 1, none⟩ (.int .i64 (v)))) := hH6.out.newD (p := ⟨gB, 1, none⟩) (by show w.heap.size ≤ gB; have := hRw.out; have := hBR.out; omega) _
    clear hX6 hY6 hC6 hH6
    obtain ⟨x0, x1, x2, x3, x4⟩ := XB.cells hX7.out
    simp only at x0 x1 x2 x3 x4
    have p0 := CB.frozen (show CB 56 (w6.setCell ⟨gB, 1, none⟩ (.int .i64 (v))) gR (In.enc ⟨ByteArray.empty, 0, 0, 0, 0⟩) from hY7.out) 0
    have p1 := CB.frozen (show CB 56 (w6.setCell ⟨gB, 1, none⟩ (.int .i64 (v))) gR (In.enc ⟨ByteArray.empty, 0, 0, 0, 0⟩) from hY7.out) 1
    have p2 := CB.frozen (show CB 56 (w6.setCell ⟨gB, 1, none⟩ (.int .i64 (v))) gR (In.enc ⟨ByteArray.empty, 0, 0, 0, 0⟩) from hY7.out) 2
    have p3 := CB.frozen (show CB 56 (w6.setCell ⟨gB, 1, none⟩ (.int .i64 (v))) gR (In.enc ⟨ByteArray.empty, 0, 0, 0, 0⟩) from hY7.out) 3
    have p4 := CB.frozen (show CB 56 (w6.setCell ⟨gB, 1, none⟩ (.int .i64 (v))) gR (In.enc ⟨ByteArray.empty, 0, 0, 0, 0⟩) from hY7.out) 4
    obtain ⟨y0, y1, y2, y3, y4⟩ := XB.cells hY7.out
    simp only at y0 y1 y2 y3 y4
    have hne : ¬ gR = gB := by have := hBR.out; omega
    have hne2 : ¬ gB = gR := by have := hBR.out; omega
    go_wp2
    refine bodyPost_ret (v := .agg #[.string s, .int .i64 ((v)), .int .i64 (a), .int .i64 (b), .int .i64 (m)]) ?_ rfl ⟨⟨s, (v), a, b, m⟩, rfl, hsz.out, ?_, ?_⟩
    · obtain ⟨z0, z1, z2, z3, z4⟩ := (XB.five' ⟨s, (v), a, b, m⟩ hY7.out).cells
      generalize (World.setCell _ ⟨gR, 4, none⟩ _) = W at z0 z1 z2 z3 z4 ⊢
      simp only at z0 z1 z2 z3 z4
      simp [results, Try.results154, go_sem, z0, z1, z2, z3, z4]
    · have hcu := hC7.out.more (show K + 18 ≤ K + 18 by omega)
      exact ((((hcu.far (p := ⟨gR, 0, none⟩) hgg.out _).far (p := ⟨gR, 1, none⟩) hgg.out _).far (p := ⟨gR, 2, none⟩) hgg.out _).far (p := ⟨gR, 3, none⟩) hgg.out _).far (p := ⟨gR, 4, none⟩) hgg.out _
    · exact ((((hH7.out.newD (p := ⟨gR, 0, none⟩) hRw.out _).newD (p := ⟨gR, 1, none⟩) hRw.out _).newD (p := ⟨gR, 2, none⟩) hRw.out _).newD (p := ⟨gR, 3, none⟩) hRw.out _).newD (p := ⟨gR, 4, none⟩) hRw.out _
  by_cases q1 : p = 1
  · subst q1
    have hIS := lit_is w4 an2
    have al := (Below.refl w4.heap.size w4).alloc (Nat.le_refl _) (.cells (intCells an2) 3)
    have hX5 := Lib.hid (CB.below (show CB 56 w4 gB (In.enc ⟨s, d, a, b, m⟩) from hX4.out) al (CB.lt hX4.out))
    have hY5 := Lib.hid (CB.below (show CB 56 w4 gR (In.enc ⟨ByteArray.empty, 0, 0, 0, 0⟩) from hY4.out) al (CB.lt hY4.out))
    have hC5 := Lib.hid (hC4.out.below al)
    have hH5 := Lib.hid (hH4.out.alloc (.cells (intCells an2) 3))
    have hgl := hC4.out.lt
    clear al hX4 hY4 hC4 hH4
    have hM := Lib.hid (among_any g (K + 16) w4.heap.size (w4.heap.size + 1) (some ⟨w4.heap.size, 0, none⟩) 4 4 an2 _ rfl (by omega) hC5.out (by decide) (by decide) hIS hgl (by simp))
    clear hIS hgl
    go_wp2_with (fail)
    refine hM.out.mono ?_
    rintro e w6 ⟨v, rfl, _, hcu, hch⟩
    have hX6 := Lib.hid (CB.chgD (show CB 56 (w4.alloc (.cells (intCells an2) 3)) gB (In.enc ⟨s, d, a, b, m⟩) from hX5.out) hch (.inr (by have := hgg.out; have := hBR.out; omega)))
    have hY6 := Lib.hid (CB.chgD (show CB 56 (w4.alloc (.cells (intCells an2) 3)) gR (In.enc ⟨ByteArray.empty, 0, 0, 0, 0⟩) from hY5.out) hch (.inr (by have := hgg.out; omega)))
    have hC6 := Lib.hid hcu
    have hH6 := Lib.hid (hH5.out.trans hch)
    clear hcu hch hX5 hY5 hC5 hH5
    clear hM
    have f7 := CB.frozen (show CB 56 w6 gB (In.enc ⟨s, d, a, b, m⟩) from hX6.out) 2
    have o7 := (CB.cell (show CB 56 w6 gB (In.enc ⟨s, d, a, b, m⟩) from hX6.out) 2).trans (rfl : _ = some (Value.int .i64 (a)))
    have hX7 : Hid (XB (w6.setCell ⟨gB, 2, none⟩ (.int .i64 (v))) gB ⟨s, d, (v), b, m⟩) := CB.set (show CB 56 w6 gB (In.enc ⟨s, d, a, b, m⟩) from hX6.out) 2 (.int .i64 (v))
    have hY7 : Hid (XB (w6.setCell ⟨gB, 2, none⟩ (.int .i64 (v))) gR ⟨ByteArray.empty, 0, 0, 0, 0⟩) := CB.farD (show CB 56 w6 gR (In.enc ⟨ByteArray.empty, 0, 0, 0, 0⟩) from hY6.out) (p := ⟨gB, 2, none⟩) (by show gB ≠ gR; have := hBR.out; omega) _
    have hC7 : Hid (Cur (w6.setCell ⟨gB, 2, none⟩ (.int .i64 (v))) g (K + 18)) := hC6.out.far (p := ⟨gB, 2, none⟩) (by show g < gB; have := hgg.out; have := hBR.out; omega) _
    have hH7 : Hid (Chg g (g + 1) w (w6.setCell ⟨gB, 2, none⟩ (.int .i64 (v)))) := hH6.out.newD (p := ⟨gB, 2, none⟩) (by show w.heap.size ≤ gB; have := hRw.out; have := hBR.out; omega) _
    clear hX6 hY6 hC6 hH6
    obtain ⟨x0, x1, x2, x3, x4⟩ := XB.cells hX7.out
    simp only at x0 x1 x2 x3 x4
    have p0 := CB.frozen (show CB 56 (w6.setCell ⟨gB, 2, none⟩ (.int .i64 (v))) gR (In.enc ⟨ByteArray.empty, 0, 0, 0, 0⟩) from hY7.out) 0
    have p1 := CB.frozen (show CB 56 (w6.setCell ⟨gB, 2, none⟩ (.int .i64 (v))) gR (In.enc ⟨ByteArray.empty, 0, 0, 0, 0⟩) from hY7.out) 1
    have p2 := CB.frozen (show CB 56 (w6.setCell ⟨gB, 2, none⟩ (.int .i64 (v))) gR (In.enc ⟨ByteArray.empty, 0, 0, 0, 0⟩) from hY7.out) 2
    have p3 := CB.frozen (show CB 56 (w6.setCell ⟨gB, 2, none⟩ (.int .i64 (v))) gR (In.enc ⟨ByteArray.empty, 0, 0, 0, 0⟩) from hY7.out) 3
    have p4 := CB.frozen (show CB 56 (w6.setCell ⟨gB, 2, none⟩ (.int .i64 (v))) gR (In.enc ⟨ByteArray.empty, 0, 0, 0, 0⟩) from hY7.out) 4
    obtain ⟨y0, y1, y2, y3, y4⟩ := XB.cells hY7.out
    simp only at y0 y1 y2 y3 y4
    have hne : ¬ gR = gB := by have := hBR.out; omega
    have hne2 : ¬ gB = gR := by have := hBR.out; omega
    go_wp2
    refine bodyPost_ret (v := .agg #[.string s, .int .i64 (d), .int .i64 ((v)), .int .i64 (b), .int .i64 (m)]) ?_ rfl ⟨⟨s, d, (v), b, m⟩, rfl, hsz.out, ?_, ?_⟩
    · obtain ⟨z0, z1, z2, z3, z4⟩ := (XB.five' ⟨s, d, (v), b, m⟩ hY7.out).cells
      generalize (World.setCell _ ⟨gR, 4, none⟩ _) = W at z0 z1 z2 z3 z4 ⊢
      simp only at z0 z1 z2 z3 z4
      simp [results, Try.results154, go_sem, z0, z1, z2, z3, z4]
    · have hcu := hC7.out.more (show K + 18 ≤ K + 18 by omega)
      exact ((((hcu.far (p := ⟨gR, 0, none⟩) hgg.out _).far (p := ⟨gR, 1, none⟩) hgg.out _).far (p := ⟨gR, 2, none⟩) hgg.out _).far (p := ⟨gR, 3, none⟩) hgg.out _).far (p := ⟨gR, 4, none⟩) hgg.out _
    · exact ((((hH7.out.newD (p := ⟨gR, 0, none⟩) hRw.out _).newD (p := ⟨gR, 1, none⟩) hRw.out _).newD (p := ⟨gR, 2, none⟩) hRw.out _).newD (p := ⟨gR, 3, none⟩) hRw.out _).newD (p := ⟨gR, 4, none⟩) hRw.out _
  by_cases q2 : p = 2
  · subst q2
    have hIS := lit_is w4 an3
    have al := (Below.refl w4.heap.size w4).alloc (Nat.le_refl _) (.cells (intCells an3) 3)
    have hX5 := Lib.hid (CB.below (show CB 56 w4 gB (In.enc ⟨s, d, a, b, m⟩) from hX4.out) al (CB.lt hX4.out))
    have hY5 := Lib.hid (CB.below (show CB 56 w4 gR (In.enc ⟨ByteArray.empty, 0, 0, 0, 0⟩) from hY4.out) al (CB.lt hY4.out))
    have hC5 := Lib.hid (hC4.out.below al)
    have hH5 := Lib.hid (hH4.out.alloc (.cells (intCells an3) 3))
    have hgl := hC4.out.lt
    clear al hX4 hY4 hC4 hH4
    have hM := Lib.hid (among_any g (K + 16) w4.heap.size (w4.heap.size + 1) (some ⟨w4.heap.size, 0, none⟩) 4 4 an3 _ rfl (by omega) hC5.out (by decide) (by decide) hIS hgl (by simp))
    clear hIS hgl
    go_wp2_with (fail)
    refine hM.out.mono ?_
    rintro e w6 ⟨v, rfl, _, hcu, hch⟩
    have hX6 := Lib.hid (CB.chgD (show CB 56 (w4.alloc (.cells (intCells an3) 3)) gB (In.enc ⟨s, d, a, b, m⟩) from hX5.out) hch (.inr (by have := hgg.out; have := hBR.out; omega)))
    have hY6 := Lib.hid (CB.chgD (show CB 56 (w4.alloc (.cells (intCells an3) 3)) gR (In.enc ⟨ByteArray.empty, 0, 0, 0, 0⟩) from hY5.out) hch (.inr (by have := hgg.out; omega)))
    have hC6 := Lib.hid hcu
    have hH6 := Lib.hid (hH5.out.trans hch)
    clear hcu hch hX5 hY5 hC5 hH5
    clear hM
    have f7 := CB.frozen (show CB 56 w6 gB (In.enc ⟨s, d, a, b, m⟩) from hX6.out) 3
    have o7 := (CB.cell (show CB 56 w6 gB (In.enc ⟨s, d, a, b, m⟩) from hX6.out) 3).trans (rfl : _ = some (Value.int .i64 (b)))
    have hX7 : Hid (XB (w6.setCell ⟨gB, 3, none⟩ (.int .i64 (v))) gB ⟨s, d, a, (v), m⟩) := CB.set (show CB 56 w6 gB (In.enc ⟨s, d, a, b, m⟩) from hX6.out) 3 (.int .i64 (v))
    have hY7 : Hid (XB (w6.setCell ⟨gB, 3, none⟩ (.int .i64 (v))) gR ⟨ByteArray.empty, 0, 0, 0, 0⟩) := CB.farD (show CB 56 w6 gR (In.enc ⟨ByteArray.empty, 0, 0, 0, 0⟩) from hY6.out) (p := ⟨gB, 3, none⟩) (by show gB ≠ gR; have := hBR.out; omega) _
    have hC7 : Hid (Cur (w6.setCell ⟨gB, 3, none⟩ (.int .i64 (v))) g (K + 18)) := hC6.out.far (p := ⟨gB, 3, none⟩) (by show g < gB; have := hgg.out; have := hBR.out; omega) _
    have hH7 : Hid (Chg g (g + 1) w (w6.setCell ⟨gB, 3, none⟩ (.int .i64 (v)))) := hH6.out.newD (p := ⟨gB, 3, none⟩) (by show w.heap.size ≤ gB; have := hRw.out; have := hBR.out; omega) _
    clear hX6 hY6 hC6 hH6
    obtain ⟨x0, x1, x2, x3, x4⟩ := XB.cells hX7.out
    simp only at x0 x1 x2 x3 x4
    have p0 := CB.frozen (show CB 56 (w6.setCell ⟨gB, 3, none⟩ (.int .i64 (v))) gR (In.enc ⟨ByteArray.empty, 0, 0, 0, 0⟩) from hY7.out) 0
    have p1 := CB.frozen (show CB 56 (w6.setCell ⟨gB, 3, none⟩ (.int .i64 (v))) gR (In.enc ⟨ByteArray.empty, 0, 0, 0, 0⟩) from hY7.out) 1
    have p2 := CB.frozen (show CB 56 (w6.setCell ⟨gB, 3, none⟩ (.int .i64 (v))) gR (In.enc ⟨ByteArray.empty, 0, 0, 0, 0⟩) from hY7.out) 2
    have p3 := CB.frozen (show CB 56 (w6.setCell ⟨gB, 3, none⟩ (.int .i64 (v))) gR (In.enc ⟨ByteArray.empty, 0, 0, 0, 0⟩) from hY7.out) 3
    have p4 := CB.frozen (show CB 56 (w6.setCell ⟨gB, 3, none⟩ (.int .i64 (v))) gR (In.enc ⟨ByteArray.empty, 0, 0, 0, 0⟩) from hY7.out) 4
    obtain ⟨y0, y1, y2, y3, y4⟩ := XB.cells hY7.out
    simp only at y0 y1 y2 y3 y4
    have hne : ¬ gR = gB := by have := hBR.out; omega
    have hne2 : ¬ gB = gR := by have := hBR.out; omega
    go_wp2
    refine bodyPost_ret (v := .agg #[.string s, .int .i64 (d), .int .i64 (a), .int .i64 ((v)), .int .i64 (m)]) ?_ rfl ⟨⟨s, d, a, (v), m⟩, rfl, hsz.out, ?_, ?_⟩
    · obtain ⟨z0, z1, z2, z3, z4⟩ := (XB.five' ⟨s, d, a, (v), m⟩ hY7.out).cells
      generalize (World.setCell _ ⟨gR, 4, none⟩ _) = W at z0 z1 z2 z3 z4 ⊢
      simp only at z0 z1 z2 z3 z4
      simp [results, Try.results154, go_sem, z0, z1, z2, z3, z4]
    · have hcu := hC7.out.more (show K + 18 ≤ K + 18 by omega)
      exact ((((hcu.far (p := ⟨gR, 0, none⟩) hgg.out _).far (p := ⟨gR, 1, none⟩) hgg.out _).far (p := ⟨gR, 2, none⟩) hgg.out _).far (p := ⟨gR, 3, none⟩) hgg.out _).far (p := ⟨gR, 4, none⟩) hgg.out _
    · exact ((((hH7.out.newD (p := ⟨gR, 0, none⟩) hRw.out _).newD (p := ⟨gR, 1, none⟩) hRw.out _).newD (p := ⟨gR, 2, none⟩) hRw.out _).newD (p := ⟨gR, 3, none⟩) hRw.out _).newD (p := ⟨gR, 4, none⟩) hRw.out _
  by_cases q3 : p = 3
  · subst q3
    have hIS := lit_is w4 an4
    have al := (Below.refl w4.heap.size w4).alloc (Nat.le_refl _) (.cells (intCells an4) 3)
    have hX5 := Lib.hid (CB.below (show CB 56 w4 gB (In.enc ⟨s, d, a, b, m⟩) from hX4.out) al (CB.lt hX4.out))
    have hY5 := Lib.hid (CB.below (show CB 56 w4 gR (In.enc ⟨ByteArray.empty, 0, 0, 0, 0⟩) from hY4.out) al (CB.lt hY4.out))
    have hC5 := Lib.hid (hC4.out.below al)
    have hH5 := Lib.hid (hH4.out.alloc (.cells (intCells an4) 3))
    have hgl := hC4.out.lt
    clear al hX4 hY4 hC4 hH4
    have hM := Lib.hid (among_any g (K + 16) w4.heap.size (w4.heap.size + 1) (some ⟨w4.heap.size, 0, none⟩) 9 9 an4 _ rfl (by omega) hC5.out (by decide) (by decide) hIS hgl (by simp))
    clear hIS hgl
    go_wp2_with (fail)
    refine hM.out.mono ?_
    rintro e w6 ⟨v, rfl, _, hcu, hch⟩
    have hX6 := Lib.hid (CB.chgD (show CB 56 (w4.alloc (.cells (intCells an4) 3)) gB (In.enc ⟨s, d, a, b, m⟩) from hX5.out) hch (.inr (by have := hgg.out; have := hBR.out; omega)))
    have hY6 := Lib.hid (CB.chgD (show CB 56 (w4.alloc (.cells (intCells an4) 3)) gR (In.enc ⟨ByteArray.empty, 0, 0, 0, 0⟩) from hY5.out) hch (.inr (by have := hgg.out; omega)))
    have hC6 := Lib.hid hcu
    have hH6 := Lib.hid (hH5.out.trans hch)
    clear hcu hch hX5 hY5 hC5 hH5
    clear hM
    have f7 := CB.frozen (show CB 56 w6 gB (In.enc ⟨s, d, a, b, m⟩) from hX6.out) 4
    have o7 := (CB.cell (show CB 56 w6 gB (In.enc ⟨s, d, a, b, m⟩) from hX6.out) 4).trans (rfl : _ = some (Value.int .i64 (m)))
    have hX7 : Hid (XB (w6.setCell ⟨gB, 4, none⟩ (.int .i64 (v))) gB ⟨s, d, a, b, (v)⟩) := CB.set (show CB 56 w6 gB (In.enc ⟨s, d, a, b, m⟩) from hX6.out) 4 (.int .i64 (v))
    have hY7 : Hid (XB (w6.setCell ⟨gB, 4, none⟩ (.int .i64 (v))) gR ⟨ByteArray.empty, 0, 0, 0, 0⟩) := CB.farD (show CB 56 w6 gR (In.enc ⟨ByteArray.empty, 0, 0, 0, 0⟩) from hY6.out) (p := ⟨gB, 4, none⟩) (by show gB ≠ gR; have := hBR.out; omega) _
    have hC7 : Hid (Cur (w6.setCell ⟨gB, 4, none⟩ (.int .i64 (v))) g (K + 18)) := hC6.out.far (p := ⟨gB, 4, none⟩) (by show g < gB; have := hgg.out; have := hBR.out; omega) _
    have hH7 : Hid (Chg g (g + 1) w (w6.setCell ⟨gB, 4, none⟩ (.int .i64 (v)))) := hH6.out.newD (p := ⟨gB, 4, none⟩) (by show w.heap.size ≤ gB; have := hRw.out; have := hBR.out; omega) _
    clear hX6 hY6 hC6 hH6
    obtain ⟨x0, x1, x2, x3, x4⟩ := XB.cells hX7.out
    simp only at x0 x1 x2 x3 x4
    have p0 := CB.frozen (show CB 56 (w6.setCell ⟨gB, 4, none⟩ (.int .i64 (v))) gR (In.enc ⟨ByteArray.empty, 0, 0, 0, 0⟩) from hY7.out) 0
    have p1 := CB.frozen (show CB 56 (w6.setCell ⟨gB, 4, none⟩ (.int .i64 (v))) gR (In.enc ⟨ByteArray.empty, 0, 0, 0, 0⟩) from hY7.out) 1
    have p2 := CB.frozen (show CB 56 (w6.setCell ⟨gB, 4, none⟩ (.int .i64 (v))) gR (In.enc ⟨ByteArray.empty, 0, 0, 0, 0⟩) from hY7.out) 2
    have p3 := CB.frozen (show CB 56 (w6.setCell ⟨gB, 4, none⟩ (.int .i64 (v))) gR (In.enc ⟨ByteArray.empty, 0, 0, 0, 0⟩) from hY7.out) 3
    have p4 := CB.frozen (show CB 56 (w6.setCell ⟨gB, 4, none⟩ (.int .i64 (v))) gR (In.enc ⟨ByteArray.empty, 0, 0, 0, 0⟩) from hY7.out) 4
    obtain ⟨y0, y1, y2, y3, y4⟩ := XB.cells hY7.out
    simp only at y0 y1 y2 y3 y4
    have hne : ¬ gR = gB := by have := hBR.out; omega
    have hne2 : ¬ gB = gR := by have := hBR.out; omega
    go_wp2
    refine bodyPost_ret (v := .agg #[.string s, .int .i64 (d), .int .i64 (a), .int .i64 (b), .int .i64 ((v))]) ?_ rfl ⟨⟨s, d, a, b, (v)⟩, rfl, hsz.out, ?_, ?_⟩
    · obtain ⟨z0, z1, z2, z3, z4⟩ := (XB.five' ⟨s, d, a, b, (v)⟩ hY7.out).cells
      generalize (World.setCell _ ⟨gR, 4, none⟩ _) = W at z0 z1 z2 z3 z4 ⊢
      simp only at z0 z1 z2 z3 z4
      simp [results, Try.results154, go_sem, z0, z1, z2, z3, z4]
    · have hcu := hC7.out.more (show K + 18 ≤ K + 18 by omega)
      exact ((((hcu.far (p := ⟨gR, 0, none⟩) hgg.out _).far (p := ⟨gR, 1, none⟩) hgg.out _).far (p := ⟨gR, 2, none⟩) hgg.out _).far (p := ⟨gR, 3, none⟩) hgg.out _).far (p := ⟨gR, 4, none⟩) hgg.out _
    · exact ((((hH7.out.newD (p := ⟨gR, 0, none⟩) hRw.out _).newD (p := ⟨gR, 1, none⟩) hRw.out _).newD (p := ⟨gR, 2, none⟩) hRw.out _).newD (p := ⟨gR, 3, none⟩) hRw.out _).newD (p := ⟨gR, 4, none⟩) hRw.out _
  by_cases q4 : p = 4
  · subst q4
    have hIS := lit_ss w4 ops5
    have al := (Below.refl w4.heap.size w4).alloc (Nat.le_refl _) (.cells (ops5.flatMap encD).toArray 9)
    have hX5 := Lib.hid (CB.below (show CB 56 w4 gB (In.enc ⟨s, d, a, b, m⟩) from hX4.out) al (CB.lt hX4.out))
    have hY5 := Lib.hid (CB.below (show CB 56 w4 gR (In.enc ⟨ByteArray.empty, 0, 0, 0, 0⟩) from hY4.out) al (CB.lt hY4.out))
    have hC5 := Lib.hid (hC4.out.below al)
    have hH5 := Lib.hid (hH4.out.alloc (.cells (ops5.flatMap encD).toArray 9))
    have hgl := hC4.out.lt
    clear al hX4 hY4 hC4 hH4
    have hM := Lib.hid (of_any g (K + 16) w4.heap.size (w4.heap.size + 1) (some ⟨w4.heap.size, 0, none⟩) 5 5 ops5 _ rfl (by omega) hC5.out (by decide) (by decide) hIS hgl (by simp))
    clear hIS hgl
    rw [ops5_cells] at hM hX5 hY5 hC5 hH5
    go_wp2_with (fail)
    with_reducible refine hM.out.mono ?_
    rintro e w6 ⟨v, rfl, hmem, hcu, hch⟩
    have hsv := Lib.hid (ops5_size v hmem)
    clear hmem
    have hX6 := Lib.hid (CB.chgD (show CB 56 (w4.alloc (.cells #[.string ⟨#[]⟩, .string ⟨#[99,111,110,115,116]⟩, .string ⟨#[110,111,112]⟩, .string ⟨#[115,101,116]⟩, .string ⟨#[108,101,97]⟩] 9)) gB (In.enc ⟨s, d, a, b, m⟩) from hX5.out) hch (.inr (by have := hgg.out; have := hBR.out; omega)))
    have hY6 := Lib.hid (CB.chgD (show CB 56 (w4.alloc (.cells #[.string ⟨#[]⟩, .string ⟨#[99,111,110,115,116]⟩, .string ⟨#[110,111,112]⟩, .string ⟨#[115,101,116]⟩, .string ⟨#[108,101,97]⟩] 9)) gR (In.enc ⟨ByteArray.empty, 0, 0, 0, 0⟩) from hY5.out) hch (.inr (by have := hgg.out; omega)))
    have hC6 := Lib.hid hcu
    have hH6 := Lib.hid (hH5.out.trans hch)
    clear hcu hch hX5 hY5 hC5 hH5
    clear hM
    have f7 := CB.frozen (show CB 56 w6 gB (In.enc ⟨s, d, a, b, m⟩) from hX6.out) 0
    have o7 := (CB.cell (show CB 56 w6 gB (In.enc ⟨s, d, a, b, m⟩) from hX6.out) 0).trans (rfl : _ = some (Value.string s))
    have hX7 : Hid (XB (w6.setCell ⟨gB, 0, none⟩ (.string v)) gB ⟨(v), d, a, b, m⟩) := CB.set (show CB 56 w6 gB (In.enc ⟨s, d, a, b, m⟩) from hX6.out) 0 (.string v)
    have hY7 : Hid (XB (w6.setCell ⟨gB, 0, none⟩ (.string v)) gR ⟨ByteArray.empty, 0, 0, 0, 0⟩) := CB.farD (show CB 56 w6 gR (In.enc ⟨ByteArray.empty, 0, 0, 0, 0⟩) from hY6.out) (p := ⟨gB, 0, none⟩) (by show gB ≠ gR; have := hBR.out; omega) _
    have hC7 : Hid (Cur (w6.setCell ⟨gB, 0, none⟩ (.string v)) g (K + 18)) := hC6.out.far (p := ⟨gB, 0, none⟩) (by show g < gB; have := hgg.out; have := hBR.out; omega) _
    have hH7 : Hid (Chg g (g + 1) w (w6.setCell ⟨gB, 0, none⟩ (.string v))) := hH6.out.newD (p := ⟨gB, 0, none⟩) (by show w.heap.size ≤ gB; have := hRw.out; have := hBR.out; omega) _
    clear hX6 hY6 hC6 hH6
    obtain ⟨x0, x1, x2, x3, x4⟩ := XB.cells hX7.out
    simp only at x0 x1 x2 x3 x4
    have p0 := CB.frozen (show CB 56 (w6.setCell ⟨gB, 0, none⟩ (.string v)) gR (In.enc ⟨ByteArray.empty, 0, 0, 0, 0⟩) from hY7.out) 0
    have p1 := CB.frozen (show CB 56 (w6.setCell ⟨gB, 0, none⟩ (.string v)) gR (In.enc ⟨ByteArray.empty, 0, 0, 0, 0⟩) from hY7.out) 1
    have p2 := CB.frozen (show CB 56 (w6.setCell ⟨gB, 0, none⟩ (.string v)) gR (In.enc ⟨ByteArray.empty, 0, 0, 0, 0⟩) from hY7.out) 2
    have p3 := CB.frozen (show CB 56 (w6.setCell ⟨gB, 0, none⟩ (.string v)) gR (In.enc ⟨ByteArray.empty, 0, 0, 0, 0⟩) from hY7.out) 3
    have p4 := CB.frozen (show CB 56 (w6.setCell ⟨gB, 0, none⟩ (.string v)) gR (In.enc ⟨ByteArray.empty, 0, 0, 0, 0⟩) from hY7.out) 4
    obtain ⟨y0, y1, y2, y3, y4⟩ := XB.cells hY7.out
    simp only at y0 y1 y2 y3 y4
    have hne : ¬ gR = gB := by have := hBR.out; omega
    have hne2 : ¬ gB = gR := by have := hBR.out; omega
    go_wp2
    refine bodyPost_ret (v := .agg #[.string (v), .int .i64 (d), .int .i64 (a), .int .i64 (b), .int .i64 (m)]) ?_ rfl ⟨⟨(v), d, a, b, m⟩, rfl, hsv.out, ?_, ?_⟩
    · obtain ⟨z0, z1, z2, z3, z4⟩ := (XB.five' ⟨(v), d, a, b, m⟩ hY7.out).cells
      generalize (World.setCell _ ⟨gR, 4, none⟩ _) = W at z0 z1 z2 z3 z4 ⊢
      simp only at z0 z1 z2 z3 z4
      simp [results, Try.results154, go_sem, z0, z1, z2, z3, z4]
    · have hcu := hC7.out.more (show K + 18 ≤ K + 18 by omega)
      exact ((((hcu.far (p := ⟨gR, 0, none⟩) hgg.out _).far (p := ⟨gR, 1, none⟩) hgg.out _).far (p := ⟨gR, 2, none⟩) hgg.out _).far (p := ⟨gR, 3, none⟩) hgg.out _).far (p := ⟨gR, 4, none⟩) hgg.out _
    · exact ((((hH7.out.newD (p := ⟨gR, 0, none⟩) hRw.out _).newD (p := ⟨gR, 1, none⟩) hRw.out _).newD (p := ⟨gR, 2, none⟩) hRw.out _).newD (p := ⟨gR, 3, none⟩) hRw.out _).newD (p := ⟨gR, 4, none⟩) hRw.out _
  have q0' := Lib.hid q0
  have q1' := Lib.hid q1
  have q2' := Lib.hid q2
  have q3' := Lib.hid q3
  have q4' := Lib.hid q4
  have e0 : (p == 0) = false := by have := q0'.out; simpa using this
  have e1 : (p == 1) = false := by have := q1'.out; simpa using this
  have e2 : (p == 2) = false := by have := q2'.out; simpa using this
  have e3 : (p == 3) = false := by have := q3'.out; simpa using this
  have e4 : (p == 4) = false := by have := q4'.out; simpa using this
  clear q0 q1 q2 q3 q4
  obtain ⟨x0, x1, x2, x3, x4⟩ := XB.cells hX4.out
  simp only at x0 x1 x2 x3 x4
  have p0 := CB.frozen (show CB 56 w4 gR (In.enc ⟨ByteArray.empty, 0, 0, 0, 0⟩) from hY4.out) 0
  have p1 := CB.frozen (show CB 56 w4 gR (In.enc ⟨ByteArray.empty, 0, 0, 0, 0⟩) from hY4.out) 1
  have p2 := CB.frozen (show CB 56 w4 gR (In.enc ⟨ByteArray.empty, 0, 0, 0, 0⟩) from hY4.out) 2
  have p3 := CB.frozen (show CB 56 w4 gR (In.enc ⟨ByteArray.empty, 0, 0, 0, 0⟩) from hY4.out) 3
  have p4 := CB.frozen (show CB 56 w4 gR (In.enc ⟨ByteArray.empty, 0, 0, 0, 0⟩) from hY4.out) 4
  obtain ⟨y0, y1, y2, y3, y4⟩ := XB.cells hY4.out
  simp only at y0 y1 y2 y3 y4
  have hne : ¬ gR = gB := by have := hBR.out; omega
  have hne2 : ¬ gB = gR := by have := hBR.out; omega
  go_wp2
  refine bodyPost_ret (v := .agg #[.string s, .int .i64 (d), .int .i64 (a), .int .i64 (b), .int .i64 (m)]) ?_ rfl ⟨⟨s, d, a, b, m⟩, rfl, hsz.out, ?_, ?_⟩
  · obtain ⟨z0, z1, z2, z3, z4⟩ := (XB.five' ⟨s, d, a, b, m⟩ hY4.out).cells
    generalize (World.setCell _ ⟨gR, 4, none⟩ _) = W at z0 z1 z2 z3 z4 ⊢
    simp only at z0 z1 z2 z3 z4
    simp [results, Try.results154, go_sem, z0, z1, z2, z3, z4]
  · have hcu := hC4.out.more (show K + 16 ≤ K + 18 by omega)
    exact ((((hcu.far (p := ⟨gR, 0, none⟩) hgg.out _).far (p := ⟨gR, 1, none⟩) hgg.out _).far (p := ⟨gR, 2, none⟩) hgg.out _).far (p := ⟨gR, 3, none⟩) hgg.out _).far (p := ⟨gR, 4, none⟩) hgg.out _
  · exact ((((hH4.out.newD (p := ⟨gR, 0, none⟩) hRw.out _).newD (p := ⟨gR, 1, none⟩) hRw.out _).newD (p := ⟨gR, 2, none⟩) hRw.out _).newD (p := ⟨gR, 3, none⟩) hRw.out _).newD (p := ⟨gR, 4, none⟩) hRw.out _
end Go.Proofs.Ytmhdijklindipaa
