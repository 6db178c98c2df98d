/- Texts of this proof, one behind the other: RP, DA, SA, SB, TM. -/
import Derived.Test.YthjfedidpjfboaaZ12
import Derived.Test.YthjfedidpjfboaaLawC
import Derived.WalkKit
import Derived.WalkSpells
import Derived.WalkLawsBesides
import Derived.Lib.Hide
import Derived.Deep.RegionHeld3
import Derived.Deep.RegionLaw
import Derived.Test.YthjfedidpjfboaaZ13
import Derived.Test.YthjfedidpjfboaaM
namespace Go.Proofs.Ythjfedidpjfboaa
open Go.RowKit
set_option linter.unusedVariables false
set_option maxRecDepth 100000

/-- A block of one instruction, written whole. -/
def XB (w : World) (g : Nat) (x : In) : Prop := CB 90 w g (In.enc x)
theorem XB.cells {w : World} {g : Nat} {x : In} (h : XB w g x) : w.cell? ⟨g, 0, none⟩ = some (.string x.op) ∧ w.cell? ⟨g, 1, none⟩ = some (.int .i64 x.d) ∧ w.cell? ⟨g, 2, none⟩ = some (.int .i64 x.a) ∧ w.cell? ⟨g, 3, none⟩ = some (.int .i64 x.b) ∧ w.cell? ⟨g, 4, none⟩ = some (.int .i64 x.m) := by
  refine ⟨?_, ?_, ?_, ?_, ?_⟩ <;> (rw [CB.cell h]; rfl)

theorem XB.other {w : World} {g : Nat} {x : In} (h : XB w g x) (p : Addr) (v : Value) (hp : p.block ≠ g) : XB (w.setCell p v) g x := by
  unfold XB CB at *
  rw [← h]
  simp [World.setCell, Array.getElem?_modify, hp]
theorem XB.five {w : World} {g : Nat} {x : In} (y : In) (h : XB w g x) (o : Obj) :
    XB ((((((w.setCell ⟨g, 0, none⟩ (.string y.op)).setCell ⟨g, 1, none⟩ (.int .i64 y.d)).setCell ⟨g, 2, none⟩ (.int .i64 y.a)).setCell ⟨g, 3, none⟩ (.int .i64 y.b)).setCell ⟨g, 4, none⟩ (.int .i64 y.m)).alloc o) g y := by
  have h5 : XB (((((w.setCell ⟨g, 0, none⟩ (.string y.op)).setCell ⟨g, 1, none⟩ (.int .i64 y.d)).setCell ⟨g, 2, none⟩ (.int .i64 y.a)).setCell ⟨g, 3, none⟩ (.int .i64 y.b)).setCell ⟨g, 4, none⟩ (.int .i64 y.m)) g y :=
    ((((CB.set h 0 _).set 1 _).set 2 _).set 3 _).set 4 _
  exact CB.below h5 ((Below.refl _ _).alloc (Nat.le_refl _) _) (CB.lt h5)
end Go.Proofs.Ythjfedidpjfboaa

namespace Go.Proofs.Ythjfedidpjfboaa
open Go.RowKit
set_option linter.unusedVariables false
set_option maxRecDepth 100000

/-- Two boxes beside each other. -/
def Two (t : TypeId) (w : World) (g : Nat) (x y : In) : Prop := CB t w g (In.enc x) ∧ CB t w (g + 1) (In.enc y)
theorem Two.below {t : TypeId} {w w' : World} {g C : Nat} {x y : In} (h : Two t w g x y) (hb : Below C w w') (hC : g + 1 < C) : Two t w' g x y := ⟨CB.below h.1 hb (by omega), CB.below h.2 hb hC⟩
theorem cb_cells {t : TypeId} {w : World} {g : Nat} {x : In} (h : CB t w g (In.enc x)) : w.cell? ⟨g, 0, none⟩ = some (.string x.op) ∧ w.cell? ⟨g, 1, none⟩ = some (.int .i64 x.d) ∧ w.cell? ⟨g, 2, none⟩ = some (.int .i64 x.a) ∧ w.cell? ⟨g, 3, none⟩ = some (.int .i64 x.b) ∧ w.cell? ⟨g, 4, none⟩ = some (.int .i64 x.m) := by
  refine ⟨?_, ?_, ?_, ?_, ?_⟩ <;> (rw [CB.cell h]; rfl)
theorem Two.cells {t : TypeId} {w : World} {g : Nat} {x y : In} (h : Two t w g x y) :
    (w.cell? ⟨g, 0, none⟩ = some (.string x.op) ∧ w.cell? ⟨g, 1, none⟩ = some (.int .i64 x.d) ∧ w.cell? ⟨g, 2, none⟩ = some (.int .i64 x.a) ∧ w.cell? ⟨g, 3, none⟩ = some (.int .i64 x.b) ∧ w.cell? ⟨g, 4, none⟩ = some (.int .i64 x.m)) ∧
    (w.cell? ⟨g + 1, 0, none⟩ = some (.string y.op) ∧ w.cell? ⟨g + 1, 1, none⟩ = some (.int .i64 y.d) ∧ w.cell? ⟨g + 1, 2, none⟩ = some (.int .i64 y.a) ∧ w.cell? ⟨g + 1, 3, none⟩ = some (.int .i64 y.b) ∧ w.cell? ⟨g + 1, 4, none⟩ = some (.int .i64 y.m)) := ⟨cb_cells h.1, cb_cells h.2⟩
theorem two_new (t : TypeId) (w : World) (x y : In) : Two t ((w.alloc (.cells #[.string x.op, .int .i64 x.d, .int .i64 x.a, .int .i64 x.b, .int .i64 x.m] t)).alloc (.cells #[.string y.op, .int .i64 y.d, .int .i64 y.a, .int .i64 y.b, .int .i64 y.m] t)) w.heap.size x y := by
  have h0 : CB t (w.alloc (.cells #[.string x.op, .int .i64 x.d, .int .i64 x.a, .int .i64 x.b, .int .i64 x.m] t)) w.heap.size (In.enc x) := heap_alloc_new w _
  refine ⟨CB.below h0 ((Below.refl _ _).alloc (Nat.le_refl _) _) (by simp), ?_⟩
  have h1 := heap_alloc_new (w.alloc (.cells #[.string x.op, .int .i64 x.d, .int .i64 x.a, .int .i64 x.b, .int .i64 x.m] t)) (.cells #[.string y.op, .int .i64 y.d, .int .i64 y.a, .int .i64 y.b, .int .i64 y.m] t)
  rw [show (w.alloc (.cells #[.string x.op, .int .i64 x.d, .int .i64 x.a, .int .i64 x.b, .int .i64 x.m] t)).heap.size = w.heap.size + 1 by simp] at h1
  exact h1
theorem two_below (w : World) (o o' : Obj) : Below w.heap.size w ((w.alloc o).alloc o') := ((Below.refl w.heap.size w).alloc (Nat.le_refl _) o).alloc (by simp) o'
def indR (x y : In) : Bool := goodIn x && goodIn y && freeB x y
def ResAreIndependent (R0 R1 : Bool) (w : World) (e : Ending) (w' : World) : Prop := e = .returned (.tuple #[.bool R0, .bool R1]) ∧ Below w.heap.size w w'
set_option maxHeartbeats 4000000 in
theorem iAreIndependent_any (x y : In) (w : World) :
    Calls Try.prog 183 #[.agg #[.string x.op, .int .i64 x.d, .int .i64 x.a, .int .i64 x.b, .int .i64 x.m], .agg #[.string y.op, .int .i64 y.d, .int .i64 y.a, .int .i64 y.b, .int .i64 y.m]] w (ResAreIndependent (indR x y) (goodIn x && goodIn y) w) := by
  obtain ⟨op, d, a, b, m⟩ := x
  obtain ⟨op', d', a', b', m'⟩ := y
  have hT0 := Lib.hid (two_new 90 w ⟨op, d, a, b, m⟩ ⟨op', d', a', b', m'⟩)
  have hB0 := Lib.hid (two_below w (.cells #[.string op, .int .i64 d, .int .i64 a, .int .i64 b, .int .i64 m] 90) (.cells #[.string op', .int .i64 d', .int .i64 a', .int .i64 b', .int .i64 m'] 90))
  simp only at hT0
  go_enter Try.func183, Try.ntmps183
  go_wp2_with (fail)
  refine (IsInstr_any op d a b m _).mono ?_
  rintro e w1 ⟨rfl, hb⟩
  have hz1 := hb.size
  have hT1 := Lib.hid (hT0.out.below hb (by simp))
  have hB1 := Lib.hid (hB0.out.trans (hb.mono (by simp; omega)))
  clear hb
  cases hg : goodIn ⟨op, d, a, b, m⟩
  · have hR : Hid (indR ⟨op, d, a, b, m⟩ ⟨op', d', a', b', m'⟩ = false) := by simp [Hid, indR, hg]
    have hK : Hid ((goodIn ⟨op, d, a, b, m⟩ && goodIn ⟨op', d', a', b', m'⟩) = false) := by simp [Hid, hg]
    go_wp2
    go_ret2
    rw [hR.out, hK.out]; exact ⟨rfl, hB1.out⟩
  have hG := Lib.hid hg
  clear hg
  obtain ⟨⟨xa, xb, xc, xd, xe⟩, ⟨ya, yb, yc, yd, ye⟩⟩ := hT1.out.cells
  simp only at xa xb xc xd xe ya yb yc yd ye
  go_wp2_with (fail)
  refine (IsInstr_any op' d' a' b' m' _).mono ?_
  rintro e w2 ⟨rfl, hb⟩
  clear xa xb xc xd xe ya yb yc yd ye
  have hz2 := hb.size
  simp at hz1
  have hT2 := Lib.hid (hT1.out.below hb (by omega))
  have hB2 := Lib.hid (hB1.out.trans (hb.mono (by omega)))
  clear hb
  cases hg : goodIn ⟨op', d', a', b', m'⟩
  · have hR : Hid (indR ⟨op, d, a, b, m⟩ ⟨op', d', a', b', m'⟩ = false) := by simp [Hid, indR, hg]
    have hK : Hid ((goodIn ⟨op, d, a, b, m⟩ && goodIn ⟨op', d', a', b', m'⟩) = false) := by simp [Hid, hg]
    go_wp2
    go_ret2
    rw [hR.out, hK.out]; exact ⟨rfl, hB2.out⟩
  have hK : Hid ((goodIn ⟨op, d, a, b, m⟩ && goodIn ⟨op', d', a', b', m'⟩) = true) := by rw [Hid, hG.out, hg]; rfl
  have hR : Hid (indR ⟨op, d, a, b, m⟩ ⟨op', d', a', b', m'⟩ = freeB ⟨op, d, a, b, m⟩ ⟨op', d', a', b', m'⟩) := by rw [Hid, indR, hG.out, hg]; rfl
  clear hg
  obtain ⟨⟨xa, xb, xc, xd, xe⟩, ⟨ya, yb, yc, yd, ye⟩⟩ := hT2.out.cells
  simp only at xa xb xc xd xe ya yb yc yd ye
  have hF := Lib.hid (free_touch ⟨op, d, a, b, m⟩ ⟨op', d', a', b', m'⟩)
  go_wp2_with (fail)
  refine (isTouching_any ⟨op, d, a, b, m⟩ ⟨op', d', a', b', m'⟩ _).mono ?_
  rintro e w3 ⟨rfl, hb⟩
  clear xa xb xc xd xe ya yb yc yd ye
  have hz3 := hb.size
  have hT3 := Lib.hid (hT2.out.below hb (by omega))
  have hB3 := Lib.hid (hB2.out.trans (hb.mono (by omega)))
  clear hb
  cases ht : touchB ⟨op, d, a, b, m⟩ ⟨op', d', a', b', m'⟩
  · have hF' : Hid (freeB ⟨op, d, a, b, m⟩ ⟨op', d', a', b', m'⟩ = !touchB ⟨op', d', a', b', m'⟩ ⟨op, d, a, b, m⟩) := by rw [Hid, hF.out, ht]; simp
    obtain ⟨⟨xa, xb, xc, xd, xe⟩, ⟨ya, yb, yc, yd, ye⟩⟩ := hT3.out.cells
    simp only at xa xb xc xd xe ya yb yc yd ye
    go_wp2_with (fail)
    refine (isTouching_any ⟨op', d', a', b', m'⟩ ⟨op, d, a, b, m⟩ _).mono ?_
    rintro e w4 ⟨rfl, hb⟩
    have hB4 := Lib.hid (hB3.out.trans (hb.mono (by omega)))
    clear hb xa xb xc xd xe ya yb yc yd ye
    generalize touchB ⟨op', d', a', b', m'⟩ ⟨op, d, a, b, m⟩ = F at *
    go_wp2
    go_ret2
    rw [hR.out, hK.out, hF'.out]; exact ⟨rfl, hB4.out⟩
  · have hF' : Hid (freeB ⟨op, d, a, b, m⟩ ⟨op', d', a', b', m'⟩ = false) := by rw [Hid, hF.out, ht]; simp
    go_wp2
    go_ret2
    rw [hR.out, hK.out, hF'.out]; exact ⟨rfl, hB3.out⟩

end Go.Proofs.Ythjfedidpjfboaa

namespace Go.Proofs.Ythjfedidpjfboaa
open Go.RowKit
set_option linter.unusedVariables false
set_option maxRecDepth 100000

theorem five_one (y : In) : ∀ u ∈ In.enc y, u.oneCell' = true := by intro u hu; simp [In.enc] at hu; rcases hu with rfl | rfl | rfl | rfl | rfl <;> rfl
theorem five_ones (es : List In) : ∀ u ∈ es.flatMap In.enc, u.oneCell' = true := by
  intro u hu
  obtain ⟨x, _, hx⟩ := List.mem_flatMap.1 hu
  exact five_one x u hx
theorem OK.ofRow {w : World} {lo : Nat} {v : Value} {n : Nat} {xs : List In} (h : w.ownsRow lo 90 5 v n (xs.flatMap In.enc)) (hn : n = xs.length) : OK In.enc 5 90 w lo w.heap.size v xs := by
  subst hn; exact ⟨h, fun j hj => (h.lt j hj).2⟩
set_option maxHeartbeats 1000000 in
/-- slices.Clone of code that lies in memory. -/
theorem CloneC_any (b o c : Nat) (xs : List In) (L B : Nat) (w : World) (hl : xs.length ≤ 1048576) (hx : RS In.enc 5 w L B (some ⟨b, o, none⟩) xs) (hB : B ≤ w.heap.size) :
    Calls Try.prog 84 #[.slice (some ⟨b, o, none⟩) xs.length c] w (FreshInstr w xs) := by
  obtain ⟨i0, hi, hz0, hz1, hz2⟩ := info_parts Try.infoInstr
  have hb0 := Lib.hid ((Below.refl w.heap.size w).alloc (Nat.le_refl _) (.cells #[] 90))
  have hnews := Lib.hid ((hx.below hb0.out hB).news In.hk)
  have hown := Lib.hid (World.ownsRow_made (base := w.heap.size) (e := 90) (size := 5) w #[] 0 (Nat.le_refl _) (by unfold maxLen; omega) (by simp))
  clear hx
  have heq := Lib.run_eql_slice_nil (P := Try.prog) w 34 90 (some ⟨b, o, none⟩) xs.length c 0 0 Try.underlying34
  simp only [Option.isNone_some] at heq
  go_enter Try.func84, Try.ntmps84
  go_wp2_with (at_builtin; refine wpList_append_src rfl _ _ 34 rfl w.heap.size 90 i0 _ 5 48 Try.underlying34 hi hz0 hz1 hz2 rfl (by decide) _ 0 [] rfl hown.out (some ⟨b, o, none⟩) xs.length c (xs.flatMap In.enc) rfl (kflat_len In.hk xs) hnews.out (five_ones xs) (by unfold maxLen; omega) (by omega) (by simp) ?_; intro v' w1 hown' hgrow _)
  simp only [Nat.zero_add, List.nil_append] at hown'
  have ho : Hid (OK In.enc 5 90 w1 w.heap.size w1.heap.size v' xs) := OK.ofRow hown' rfl
  have hb : Hid (Below w.heap.size w w1) := hb0.out.grown hgrow (by simp) (fun k hk => by cases hk; exact Nat.le_refl _)
  obtain ⟨A', c', rfl, _⟩ := OK.form In.hk ho.out
  clear hown' hgrow
  go_wp2
  go_ret
  exact ⟨_, _, rfl, ho.out, hb.out⟩

def swOk (es : List In) (i : Int) : Bool := okCode es && inR i 0 (es.length - 2) && freeB (es.getD i.toNat zeroIn) (es.getD (i.toNat + 1) zeroIn)
def swapR (es : List In) (i : Int) : List In := if swOk es i = true then (es.set i.toNat (es.getD (i.toNat + 1) zeroIn)).set (i.toNat + 1) (es.getD i.toNat zeroIn) else []
theorem swapR_len (es : List In) (i : Int) : (swapR es i).length ≤ 1048576 := by
  unfold swapR; split
  · rename_i h; simp only [swOk, Bool.and_eq_true] at h
    have := okCode_len h.1.1; simp; omega
  · simp
theorem swapR_no {es : List In} {i : Int} (h : swOk es i = false) : swapR es i = [] := by simp [swapR, h]
theorem inR_nat {i : Int} {n : Nat} (h : inR i 0 ((n : Int) - 2) = true) : ∃ k : Nat, i = k ∧ k + 1 < n := by
  rw [inR_iff] at h
  obtain ⟨k, rfl⟩ := Int.eq_ofNat_of_zero_le h.1
  exact ⟨k, rfl, by omega⟩

set_option maxHeartbeats 8000000 in
theorem iSwap_any (L B : Nat) (A : Option Addr) (c : Nat) (es : List In) (i : Int) (w : World) (hl : es.length ≤ 1048576) (hes : RS In.enc 5 w L B A es) (hB : B ≤ w.heap.size) :
    Calls Try.prog 147 #[.slice A es.length c, .int .i64 i] w (ResSwapNeighbours (swapR es i) (swOk es i) w) := by
  have H := Lib.hid (IsCode_any L B A c es w hl hes hB)
  have hE := Lib.hid hes
  have hBB := Lib.hid hB
  have hX := Lib.hid (fun W => isIndex_any i ((es.length : Int) - 1) W)
  rw [show (es.length : Int) - 1 - 1 = es.length - 2 by omega] at hX
  clear hes hB
  go_enter Try.func147, Try.ntmps147
  go_wp2_with (fail)
  refine H.out.mono ?_
  rintro e w2 ⟨rfl, hb⟩
  have hbb := Lib.hid hb
  have hz := hb.size
  have hE2 := Lib.hid (hE.out.below hb hBB.out)
  clear hb
  cases hg : okCode es
  · have hK : Hid (swOk es i = false) := by simp [Hid, swOk, hg]
    have hR := Lib.hid (swapR_no hK.out)
    go_wp2
    go_ret2
    rw [hR.out, hK.out]; exact ⟨none, 0, rfl, OK.nil _ _ _ _, hbb.out⟩
  have hG := Lib.hid hg
  have hlen := Lib.hid (okCode_len hg)
  have hall := Lib.hid (okCode_all hg)
  clear hg
  cases hr : inR i 0 ((es.length : Int) - 2)
  · have hK : Hid (swOk es i = false) := by simp [Hid, swOk, hr]
    have hR := Lib.hid (swapR_no hK.out)
    rw [hr] at hX
    clear hr
    go_wp2_with (go_at_call 158; refine (hX.out _).mono ?_; rintro e w' ⟨rfl, rfl⟩)
    go_ret2
    rw [hR.out, hK.out]; exact ⟨none, 0, rfl, OK.nil _ _ _ _, hbb.out⟩
  obtain ⟨n, rfl, hn⟩ := inR_nat hr
  have hr' := Lib.hid hr
  have hn' : n < es.length := by omega
  rw [hr] at hX
  obtain ⟨b, o, rfl, ⟨_, hbB⟩, hc⟩ := In.cells hE2.out (by omega)
  obtain ⟨c1, c2, c3, c4, c5⟩ := hc n hn'
  obtain ⟨d1, d2, d3, d4, d5⟩ := hc (n + 1) hn
  clear hc hr
  have hg0 : es.getD n zeroIn = es[n] := by rw [List.getD_eq_getElem?_getD, List.getElem?_eq_getElem hn']; rfl
  have hg1 : es.getD (n + 1) zeroIn = es[n + 1] := by rw [List.getD_eq_getElem?_getD, List.getElem?_eq_getElem hn]; rfl
  have hK0 : Hid (swOk es n = freeB es[n] es[n + 1]) := by rw [Hid, swOk, hG.out, hr'.out, Int.toNat_natCast, hg0, hg1]; rfl
  have hR0 : Hid (swOk es n = true → swapR es n = (es.set n es[n + 1]).set (n + 1) es[n]) := by intro h; rw [swapR, if_pos h, Int.toNat_natCast, hg0, hg1]
  have hA := Lib.hid (fun W => iAreIndependent_any es[n] es[n + 1] W)
  have hgd : goodIn es[n] = true ∧ goodIn es[n + 1] = true := ⟨hall.out _ (List.getElem_mem _), hall.out _ (List.getElem_mem _)⟩
  have hI : Hid (indR es[n] es[n + 1] = freeB es[n] es[n + 1] ∧ (goodIn es[n] && goodIn es[n + 1]) = true) := by rw [Hid, indR, hgd.1, hgd.2]; exact ⟨rfl, rfl⟩
  rw [hI.out.1, hI.out.2] at hA
  clear hgd hI hg0 hg1
  have i1 : (n : Int) < es.length := by omega
  have i2 : (n : Int) + 1 < es.length := by omega
  have hw1 : IntKind.i64.wrap ((n : Int) + 1) = (n : Int) + 1 := IntWalk.i64_in _ (by omega)
  have hw2 : ((n : Int) + 1).toNat = n + 1 := by omega
  have i0 : (0 : Int) ≤ (n : Int) + 1 := by omega
  have hCl := Lib.hid (fun W (h : RS In.enc 5 W L B (some ⟨b, o, none⟩) es) (hB : B ≤ W.heap.size) => CloneC_any b o c es L B W hl h hB)
  generalize hx : es[n] = x at *
  generalize hy : es[n + 1] = y at *
  obtain ⟨op, d, a, b1, m⟩ := x
  obtain ⟨op', d', a', b1', m'⟩ := y
  have hxx := Lib.hid hx
  have hyy := Lib.hid hy
  clear hx hy
  simp only at c1 c2 c3 c4 c5 d1 d2 d3 d4 d5 hA
  go_wp2_with (go_at_call 158; refine (hX.out _).mono ?_; rintro e w' ⟨rfl, rfl⟩)
  go_region_law (go_simp; go_at_call 183; (with_reducible refine (hA.out _).mono ?_); rintro e w3 ⟨rfl, hb3⟩)
  all_goals
    have hb3' := Lib.hid ((Below.refl w2.heap.size w2).drew.trans hb3)
    have hbb3 := Lib.hid (hbb.out.trans (hb3'.out.mono hz))
    have hz3 := hb3'.out.size
    have hE3 := Lib.hid (hE2.out.below hb3'.out (by have := hBB.out; omega))
    clear hb3
    cases hf : freeB ⟨op, d, a, b1, m⟩ ⟨op', d', a', b1', m'⟩
    · have hK : Hid (swOk es n = false) := by rw [Hid, hK0.out, hf]
      have hR := Lib.hid (swapR_no hK.out)
      go_wp2
      go_ret2
      rw [hR.out, hK.out]; exact ⟨none, 0, rfl, OK.nil _ _ _ _, hbb3.out⟩
    have hK : Hid (swOk es n = true) := by rw [Hid, hK0.out, hf]
    have hR := Lib.hid (hR0.out hK.out)
    clear hf c1 c2 c3 c4 c5 d1 d2 d3 d4 d5
    go_wp2_with (fail)
    refine (hCl.out _ hE3.out (by have := hBB.out; omega)).mono ?_
    rintro e w4 ⟨A4, k4, rfl, ho4, hb4⟩
    have hz4 := hb4.size
    have hbb4 := Lib.hid (hbb3.out.trans (hb4.mono (by omega)))
    have hE4 := Lib.hid (hE3.out.below hb4 (by have := hBB.out; omega))
    clear hb4
    rcases OK.open ho4 with ⟨_, h0⟩ | ⟨g, cap, hv, hgl, hgh, hlc, hcm, rest, hcb, hcl⟩
    · omega
    injection hv with e1 e2 e3; subst e1; subst e3
    obtain ⟨b2, o2, e5, ⟨_, hbB2⟩, hc⟩ := In.cells hE4.out (by omega)
    injection e5 with e5; injection e5 with e5 e6 _; subst e5; subst e6
    obtain ⟨c1, c2, c3, c4, c5⟩ := hc n hn'
    obtain ⟨d1, d2, d3, d4, d5⟩ := hc (n + 1) hn
    rw [hxx.out] at c1 c2 c3 c4 c5
    rw [hyy.out] at d1 d2 d3 d4 d5
    simp only at c1 c2 c3 c4 c5 d1 d2 d3 d4 d5
    have hCB := Lib.hid hcb
    obtain ⟨z0, z1, z2, z3, z4, p1, p2, p3, p4, p5⟩ := In.cellsB hcb n hn'
    obtain ⟨y0, y1, y2, y3, y4, q1, q2, q3, q4, q5⟩ := In.cellsB hcb (n + 1) hn
    have f1 := hcb.frozen (n * 5)
    have f2 := hcb.frozen (n * 5 + 1)
    have f3 := hcb.frozen (n * 5 + 2)
    have f4 := hcb.frozen (n * 5 + 3)
    have f5 := hcb.frozen (n * 5 + 4)
    have g1 := hcb.frozen ((n + 1) * 5)
    have g2 := hcb.frozen ((n + 1) * 5 + 1)
    have g3 := hcb.frozen ((n + 1) * 5 + 2)
    have g4 := hcb.frozen ((n + 1) * 5 + 3)
    have g5 := hcb.frozen ((n + 1) * 5 + 4)
    have hgb : Hid (b ≠ g) := by have := hBB.out; simp only [Hid]; omega
    have hne : ¬ b = g := hgb.out
    have hne' : ¬ g = b := fun h => hne h.symm
    clear hc hcb ho4
    go_wp2_with (fail)
    go_region_with (fail)
    all_goals
      have h1 := hCB.out.store In.hk n hn' ⟨op', d', a', b1', m'⟩
      have h2 := h1.store In.hk (n + 1) (by rw [List.length_set]; exact hn) ⟨op, d, a, b1, m⟩
      have hle : ((es.set n (⟨op', d', a', b1', m'⟩ : In)).set (n + 1) ⟨op, d, a, b1, m⟩).length = es.length := by rw [List.length_set, List.length_set]
      have h3 := OK.close (lo := w.heap.size) In.hk h2 (by omega) (CB.lt h2) (by rw [hle]; exact hlc) hcm (by rw [List.length_append, kflat_len In.hk, hle]; rw [List.length_append, kflat_len In.hk] at hcl; exact hcl)
      have hfin := Lib.hid h3
      have hle' := Lib.hid hle
      have hbf := Lib.hid (below_setCells (In.enc ⟨op, d, a, b1, m⟩) g ((n + 1) * 5) (below_setCells (In.enc ⟨op', d', a', b1', m'⟩) g (n * 5) hbb4.out (by omega)) (by omega))
      clear h1 h2 h3 hle
      simp only [setCells, In.enc, Nat.add_assoc, Nat.reduceAdd] at hfin hbf
      clear c1 c2 c3 c4 c5 d1 d2 d3 d4 d5 p1 p2 p3 p4 p5 q1 q2 q3 q4 q5 f1 f2 f3 f4 f5 g1 g2 g3 g4 g5 hCB
      generalize (World.setCell _ _ _) = W at hfin hbf ⊢
      generalize ((es.set n (⟨op', d', a', b1', m'⟩ : In)).set (n + 1) ⟨op, d, a, b1, m⟩) = Z at *
      go_wp2
      go_ret2
      rw [hR.out, hK.out]
      refine ⟨some ⟨g, 0, none⟩, k4, by rw [hle'.out]; rfl, ?_, ?_⟩
      · exact hfin.out
      · exact hbf.out.drew
end Go.Proofs.Ythjfedidpjfboaa

namespace Go.Proofs.Ythjfedidpjfboaa
open Go.RowKit
set_option linter.unusedVariables false
set_option maxRecDepth 100000

theorem l1In_lit (n lo hi : Int) (r : Bool) (h : inR n lo hi = r) (w : World) : Calls Try.prog 137 #[.int .i64 n, .int .i64 lo, .int .i64 hi] w fun e w' => e = .returned (.bool r) ∧ w = w' := by
  subst h; exact l1In_r n lo hi w
theorem OK.some' {w : World} {lo hi : Nat} {v : Value} {xs : List In} {t : TypeId} (h : OK In.enc 5 t w lo hi v xs) (h0 : 0 < xs.length) : ∃ g cap rest, v = .slice (some ⟨g, 0, none⟩) xs.length cap ∧ lo ≤ g ∧ g < hi ∧ xs.length ≤ cap ∧ cap ≤ maxLen ∧ CB t w g (xs.flatMap In.enc ++ rest) ∧ (xs.flatMap In.enc ++ rest).length = cap * 5 := by
  rcases OK.open h with ⟨_, h1⟩ | ⟨g, cap, h1, h2, h3, h4, h5, rest, h6, h7⟩
  · omega
  · exact ⟨g, cap, rest, h1, h2, h3, h4, h5, h6, h7⟩
theorem code_two {w : World} {L B b o n : Nat} {es : List In} {x y : In} (h : RS In.enc 5 w L B (some ⟨b, o, none⟩) es) (hn : n + 1 < es.length) (hx : es[n] = x) (hy : es[n + 1] = y) :
    (w.cell? ⟨b, o + n * 5, none⟩ = some (.string x.op) ∧ w.cell? ⟨b, o + n * 5 + 1, none⟩ = some (.int .i64 x.d) ∧ w.cell? ⟨b, o + n * 5 + 2, none⟩ = some (.int .i64 x.a) ∧ w.cell? ⟨b, o + n * 5 + 3, none⟩ = some (.int .i64 x.b) ∧ w.cell? ⟨b, o + n * 5 + 4, none⟩ = some (.int .i64 x.m)) ∧
    (w.cell? ⟨b, o + (n + 1) * 5, none⟩ = some (.string y.op) ∧ w.cell? ⟨b, o + (n + 1) * 5 + 1, none⟩ = some (.int .i64 y.d) ∧ w.cell? ⟨b, o + (n + 1) * 5 + 2, none⟩ = some (.int .i64 y.a) ∧ w.cell? ⟨b, o + (n + 1) * 5 + 3, none⟩ = some (.int .i64 y.b) ∧ w.cell? ⟨b, o + (n + 1) * 5 + 4, none⟩ = some (.int .i64 y.m)) := by
  subst hx; subst hy
  obtain ⟨b', o', e, _, hc⟩ := In.cells h (by omega)
  injection e with e; injection e with e1 e2 _; subst e1; subst e2
  exact ⟨hc n (by omega), hc (n + 1) hn⟩
end Go.Proofs.Ythjfedidpjfboaa

/- Tables and inputs. No program. -/
namespace Go.Proofs.Ythjfedidpjfboaa
open Go.RowKit
set_option linter.unusedVariables false

/-- A list of f's values at the first n inputs. -/
def tabTo (f : Int → Int → Int) (n : Nat) : List Int := (List.range n).map fun i => f ((i / 64 : Nat) : Int) ((i % 64 : Nat) : Int)
theorem tabTo_len (f : Int → Int → Int) (n : Nat) : (tabTo f n).length = n := by simp [tabTo]
theorem tabTo_succ (f : Int → Int → Int) (k j : Nat) (h : j < 64) : tabTo f (64 * k + (j + 1)) = tabTo f (64 * k + j) ++ [f k j] := by
  unfold tabTo
  rw [← Nat.add_assoc, List.range_succ, List.map_append]
  have h1 : (64 * k + j) / 64 = k := by omega
  have h2 : (64 * k + j) % 64 = j := by omega
  simp only [List.map_cons, List.map_nil, h1, h2]
theorem tabTo_next (f : Int → Int → Int) (k : Nat) : tabTo f (64 * k + 64) = tabTo f (64 * (k + 1) + 0) := by
  rw [Nat.mul_add]

def inStep (out : List Int) (n : Nd) : List Int := if isIn n.op = true then put out n.v else out
def inTo (es : List Nd) (k : Nat) : List Int := (es.take k).foldl inStep []
def isInp (n : Nd) (k : Int) : Bool := isIn n.op && n.v == k
def hasIn (es : List Nd) (k : Int) : Bool := es.any fun n => isInp n k
def twoOf (a b : Bool) : List Int := (if a = true then [0] else []) ++ (if b = true then [1] else [])
theorem inTo_succ {es : List Nd} {k : Nat} (h : k < es.length) : inTo es (k + 1) = inStep (inTo es k) es[k] := by
  unfold inTo; rw [List.take_succ_eq_append_getElem h, List.foldl_append]; rfl
theorem hasIn_snoc {es : List Nd} {k : Nat} (h : k < es.length) (q : Int) : hasIn (es.take (k + 1)) q = (hasIn (es.take k) q || isInp es[k] q) := by
  unfold hasIn; rw [List.take_succ_eq_append_getElem h, List.any_append]; simp
theorem inTo_eq {es : List Nd} (hok : ∀ k (h : k < es.length), isIn es[k].op = true → es[k].v = 0 ∨ es[k].v = 1) : ∀ k, k ≤ es.length → inTo es k = twoOf (hasIn (es.take k) 0) (hasIn (es.take k) 1) := by
  intro k
  induction k with
  | zero => intro _; rfl
  | succ k ih =>
    intro hk
    rw [inTo_succ (by omega), hasIn_snoc (by omega), hasIn_snoc (by omega), ih (by omega)]
    have hv := hok k (by omega)
    generalize es[k] = n at *
    generalize hasIn (es.take k) 0 = a
    generalize hasIn (es.take k) 1 = b
    unfold inStep isInp
    cases hn : isIn n.op
    · simp
    · rcases hv hn with h | h <;> rw [h] <;> cases a <;> cases b <;> decide
theorem twoOf_len (a b : Bool) : (twoOf a b).length ≤ 2 := by cases a <;> cases b <;> decide
end Go.Proofs.Ythjfedidpjfboaa
