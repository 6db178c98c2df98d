/- Texts of this proof, one behind the other: RO, RP, CZ3, DA, SA, SB. -/
import Derived.Test.YtaaloepoegehkaaZ13
import Derived.WalkKit
import Derived.WalkSpells
import Derived.WalkLawsBesides
import Derived.Lib.Hide
import Derived.Test.YtaaloepoegehkaaLawC
import Derived.Deep.RegionHeld3
import Derived.Deep.RegionLaw
namespace Go.Proofs.Ytaaloepoegehkaa
open Go.RowKit
set_option linter.unusedVariables false
set_option maxRecDepth 100000

theorem IS.take {w : World} {L B : Nat} {A : Option Addr} {xs : List Int} (h : IS w L B A xs) (k : Nat) : IS w L B A (xs.take k) := by
  intro hn
  rw [List.length_take] at hn
  obtain ⟨b, o, e, hb, hc⟩ := h (by omega)
  refine ⟨b, o, e, hb, fun i hi => ?_⟩
  have hi' : i < xs.length := by rw [List.length_take] at hi; omega
  rw [List.getElem_take]; exact hc i hi'
end Go.Proofs.Ytaaloepoegehkaa

namespace Go.Proofs.Ytaaloepoegehkaa
open Go.RowKit
set_option linter.unusedVariables false
set_option maxRecDepth 100000

/-- A block of one instruction, written whole. -/
def XB (w : World) (g : Nat) (x : In) : Prop := CB 88 w g (In.enc x)
theorem XB.cells {w : World} {g : Nat} {x : In} (h : XB w g x) : w.cell? ⟨g, 0, none⟩ = some (.string x.op) ∧ w.cell? ⟨g, 1, none⟩ = some (.int .i64 x.d) ∧ w.cell? ⟨g, 2, none⟩ = some (.int .i64 x.a) ∧ w.cell? ⟨g, 3, none⟩ = some (.int .i64 x.b) ∧ w.cell? ⟨g, 4, none⟩ = some (.int .i64 x.m) := by
  refine ⟨?_, ?_, ?_, ?_, ?_⟩ <;> (rw [CB.cell h]; rfl)

theorem XB.other {w : World} {g : Nat} {x : In} (h : XB w g x) (p : Addr) (v : Value) (hp : p.block ≠ g) : XB (w.setCell p v) g x := by
  unfold XB CB at *
  rw [← h]
  simp [World.setCell, Array.getElem?_modify, hp]
theorem XB.five {w : World} {g : Nat} {x : In} (y : In) (h : XB w g x) (o : Obj) :
    XB ((((((w.setCell ⟨g, 0, none⟩ (.string y.op)).setCell ⟨g, 1, none⟩ (.int .i64 y.d)).setCell ⟨g, 2, none⟩ (.int .i64 y.a)).setCell ⟨g, 3, none⟩ (.int .i64 y.b)).setCell ⟨g, 4, none⟩ (.int .i64 y.m)).alloc o) g y := by
  have h5 : XB (((((w.setCell ⟨g, 0, none⟩ (.string y.op)).setCell ⟨g, 1, none⟩ (.int .i64 y.d)).setCell ⟨g, 2, none⟩ (.int .i64 y.a)).setCell ⟨g, 3, none⟩ (.int .i64 y.b)).setCell ⟨g, 4, none⟩ (.int .i64 y.m)) g y :=
    ((((CB.set h 0 _).set 1 _).set 2 _).set 3 _).set 4 _
  exact CB.below h5 ((Below.refl _ _).alloc (Nat.le_refl _) _) (CB.lt h5)
end Go.Proofs.Ytaaloepoegehkaa

namespace Go.Proofs.Ytaaloepoegehkaa
open Go.RowKit
set_option linter.unusedVariables false
set_option maxRecDepth 100000

theorem step_unwanted {o : Oper} {y : Nat → Option Bool} {X E : Prop} (h : Region.wanted o y = false) (hE : E) : if Region.wanted o y = true then X else E := by rw [h]; exact hE
end Go.Proofs.Ytaaloepoegehkaa

namespace Go.Proofs.Ytaaloepoegehkaa
open Go.RowKit
set_option linter.unusedVariables false
set_option maxRecDepth 100000

/-- Two boxes beside each other. -/
def Two (t : TypeId) (w : World) (g : Nat) (x y : In) : Prop := CB t w g (In.enc x) ∧ CB t w (g + 1) (In.enc y)
theorem Two.below {t : TypeId} {w w' : World} {g C : Nat} {x y : In} (h : Two t w g x y) (hb : Below C w w') (hC : g + 1 < C) : Two t w' g x y := ⟨CB.below h.1 hb (by omega), CB.below h.2 hb hC⟩
theorem cb_cells {t : TypeId} {w : World} {g : Nat} {x : In} (h : CB t w g (In.enc x)) : w.cell? ⟨g, 0, none⟩ = some (.string x.op) ∧ w.cell? ⟨g, 1, none⟩ = some (.int .i64 x.d) ∧ w.cell? ⟨g, 2, none⟩ = some (.int .i64 x.a) ∧ w.cell? ⟨g, 3, none⟩ = some (.int .i64 x.b) ∧ w.cell? ⟨g, 4, none⟩ = some (.int .i64 x.m) := by
  refine ⟨?_, ?_, ?_, ?_, ?_⟩ <;> (rw [CB.cell h]; rfl)
theorem Two.cells {t : TypeId} {w : World} {g : Nat} {x y : In} (h : Two t w g x y) :
    (w.cell? ⟨g, 0, none⟩ = some (.string x.op) ∧ w.cell? ⟨g, 1, none⟩ = some (.int .i64 x.d) ∧ w.cell? ⟨g, 2, none⟩ = some (.int .i64 x.a) ∧ w.cell? ⟨g, 3, none⟩ = some (.int .i64 x.b) ∧ w.cell? ⟨g, 4, none⟩ = some (.int .i64 x.m)) ∧
    (w.cell? ⟨g + 1, 0, none⟩ = some (.string y.op) ∧ w.cell? ⟨g + 1, 1, none⟩ = some (.int .i64 y.d) ∧ w.cell? ⟨g + 1, 2, none⟩ = some (.int .i64 y.a) ∧ w.cell? ⟨g + 1, 3, none⟩ = some (.int .i64 y.b) ∧ w.cell? ⟨g + 1, 4, none⟩ = some (.int .i64 y.m)) := ⟨cb_cells h.1, cb_cells h.2⟩
theorem two_new (t : TypeId) (w : World) (x y : In) : Two t ((w.alloc (.cells #[.string x.op, .int .i64 x.d, .int .i64 x.a, .int .i64 x.b, .int .i64 x.m] t)).alloc (.cells #[.string y.op, .int .i64 y.d, .int .i64 y.a, .int .i64 y.b, .int .i64 y.m] t)) w.heap.size x y := by
  have h0 : CB t (w.alloc (.cells #[.string x.op, .int .i64 x.d, .int .i64 x.a, .int .i64 x.b, .int .i64 x.m] t)) w.heap.size (In.enc x) := heap_alloc_new w _
  refine ⟨CB.below h0 ((Below.refl _ _).alloc (Nat.le_refl _) _) (by simp), ?_⟩
  have h1 := heap_alloc_new (w.alloc (.cells #[.string x.op, .int .i64 x.d, .int .i64 x.a, .int .i64 x.b, .int .i64 x.m] t)) (.cells #[.string y.op, .int .i64 y.d, .int .i64 y.a, .int .i64 y.b, .int .i64 y.m] t)
  rw [show (w.alloc (.cells #[.string x.op, .int .i64 x.d, .int .i64 x.a, .int .i64 x.b, .int .i64 x.m] t)).heap.size = w.heap.size + 1 by simp] at h1
  exact h1
theorem two_below (w : World) (o o' : Obj) : Below w.heap.size w ((w.alloc o).alloc o') := ((Below.refl w.heap.size w).alloc (Nat.le_refl _) o).alloc (by simp) o'
def indR (x y : In) : Bool := goodIn x && goodIn y && freeB x y
def ResAreIndependent (R0 R1 : Bool) (w : World) (e : Ending) (w' : World) : Prop := e = .returned (.tuple #[.bool R0, .bool R1]) ∧ Below w.heap.size w w'
end Go.Proofs.Ytaaloepoegehkaa

namespace Go.Proofs.Ytaaloepoegehkaa
open Go.RowKit
set_option linter.unusedVariables false
set_option maxRecDepth 100000

theorem five_one (y : In) : ∀ u ∈ In.enc y, u.oneCell' = true := by intro u hu; simp [In.enc] at hu; rcases hu with rfl | rfl | rfl | rfl | rfl <;> rfl
theorem five_ones (es : List In) : ∀ u ∈ es.flatMap In.enc, u.oneCell' = true := by
  intro u hu
  obtain ⟨x, _, hx⟩ := List.mem_flatMap.1 hu
  exact five_one x u hx
theorem OK.ofRow {w : World} {lo : Nat} {v : Value} {n : Nat} {xs : List In} (h : w.ownsRow lo 88 5 v n (xs.flatMap In.enc)) (hn : n = xs.length) : OK In.enc 5 88 w lo w.heap.size v xs := by
  subst hn; exact ⟨h, fun j hj => (h.lt j hj).2⟩
def swOk (es : List In) (i : Int) : Bool := okCode es && inR i 0 (es.length - 2) && freeB (es.getD i.toNat zeroIn) (es.getD (i.toNat + 1) zeroIn)
def swapR (es : List In) (i : Int) : List In := if swOk es i = true then (es.set i.toNat (es.getD (i.toNat + 1) zeroIn)).set (i.toNat + 1) (es.getD i.toNat zeroIn) else []
theorem swapR_len (es : List In) (i : Int) : (swapR es i).length ≤ 1048576 := by
  unfold swapR; split
  · rename_i h; simp only [swOk, Bool.and_eq_true] at h
    have := okCode_len h.1.1; simp; omega
  · simp
theorem swapR_no {es : List In} {i : Int} (h : swOk es i = false) : swapR es i = [] := by simp [swapR, h]
theorem inR_nat {i : Int} {n : Nat} (h : inR i 0 ((n : Int) - 2) = true) : ∃ k : Nat, i = k ∧ k + 1 < n := by
  rw [inR_iff] at h
  obtain ⟨k, rfl⟩ := Int.eq_ofNat_of_zero_le h.1
  exact ⟨k, rfl, by omega⟩

end Go.Proofs.Ytaaloepoegehkaa

namespace Go.Proofs.Ytaaloepoegehkaa
open Go.RowKit
set_option linter.unusedVariables false
set_option maxRecDepth 100000

theorem l1In_lit (n lo hi : Int) (r : Bool) (h : inR n lo hi = r) (w : World) : Calls Try.prog 116 #[.int .i64 n, .int .i64 lo, .int .i64 hi] w fun e w' => e = .returned (.bool r) ∧ w = w' := by
  subst h; exact l1In_r n lo hi w
theorem OK.some' {w : World} {lo hi : Nat} {v : Value} {xs : List In} {t : TypeId} (h : OK In.enc 5 t w lo hi v xs) (h0 : 0 < xs.length) : ∃ g cap rest, v = .slice (some ⟨g, 0, none⟩) xs.length cap ∧ lo ≤ g ∧ g < hi ∧ xs.length ≤ cap ∧ cap ≤ maxLen ∧ CB t w g (xs.flatMap In.enc ++ rest) ∧ (xs.flatMap In.enc ++ rest).length = cap * 5 := by
  rcases OK.open h with ⟨_, h1⟩ | ⟨g, cap, h1, h2, h3, h4, h5, rest, h6, h7⟩
  · omega
  · exact ⟨g, cap, rest, h1, h2, h3, h4, h5, h6, h7⟩
theorem code_two {w : World} {L B b o n : Nat} {es : List In} {x y : In} (h : RS In.enc 5 w L B (some ⟨b, o, none⟩) es) (hn : n + 1 < es.length) (hx : es[n] = x) (hy : es[n + 1] = y) :
    (w.cell? ⟨b, o + n * 5, none⟩ = some (.string x.op) ∧ w.cell? ⟨b, o + n * 5 + 1, none⟩ = some (.int .i64 x.d) ∧ w.cell? ⟨b, o + n * 5 + 2, none⟩ = some (.int .i64 x.a) ∧ w.cell? ⟨b, o + n * 5 + 3, none⟩ = some (.int .i64 x.b) ∧ w.cell? ⟨b, o + n * 5 + 4, none⟩ = some (.int .i64 x.m)) ∧
    (w.cell? ⟨b, o + (n + 1) * 5, none⟩ = some (.string y.op) ∧ w.cell? ⟨b, o + (n + 1) * 5 + 1, none⟩ = some (.int .i64 y.d) ∧ w.cell? ⟨b, o + (n + 1) * 5 + 2, none⟩ = some (.int .i64 y.a) ∧ w.cell? ⟨b, o + (n + 1) * 5 + 3, none⟩ = some (.int .i64 y.b) ∧ w.cell? ⟨b, o + (n + 1) * 5 + 4, none⟩ = some (.int .i64 y.m)) := by
  subst hx; subst hy
  obtain ⟨b', o', e, _, hc⟩ := In.cells h (by omega)
  injection e with e; injection e with e1 e2 _; subst e1; subst e2
  exact ⟨hc n (by omega), hc (n + 1) hn⟩
end Go.Proofs.Ytaaloepoegehkaa
