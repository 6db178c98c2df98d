/- Texts of this proof, one behind the other: N9Q, N9R, N9L, LawN9A, N9S, N9T. -/
import Derived.Test.YtaaloepoegehkaaZ9
import Derived.WalkKit
import Derived.WalkSpells
import Derived.WalkLawsBesides
import Derived.Deep.RegionLaw
import Derived.Deep.RegionHeld3
import Derived.Lib.Hide
import Derived.Deep.RegionHeldLaw
import Derived.Deep.AppendLies
import Derived.Test.YtaaloepoegehkaaVC
import Derived.Test.YtaaloepoegehkaaLawE
import Derived.Test.YtaaloepoegehkaaKMInstr
import Derived.Test.YtaaloepoegehkaaKInstr
import Derived.Test.YtaaloepoegehkaaLI
import Derived.Test.YtaaloepoegehkaaZ10
import Derived.Test.YtaaloepoegehkaaZ12
/- Chapter 9: sets of indices in a word. -/
namespace Go.Proofs.Ytaaloepoegehkaa
open Go.RowKit
set_option linter.unusedVariables false
set_option maxRecDepth 100000

theorem u64_nat {n : Nat} (h : n < 18446744073709551616) : IntKind.u64.wrap (n : Int) = (n : Int) := by
  simp [IntKind.wrap, IntKind.bits, IntKind.signed]
  omega
theorem u_and {a b : Nat} (ha : a < 18446744073709551616) (hb : b < 18446744073709551616) : bits .and .u64 (a : Int) (b : Int) = ((a &&& b : Nat) : Int) := by
  show IntKind.u64.wrap (((BitVec.ofInt 64 (a : Int) &&& BitVec.ofInt 64 (b : Int)).toNat : Nat) : Int) = _
  rw [BitVec.toNat_and, BitVec.ofInt_natCast, BitVec.ofInt_natCast, BitVec.toNat_ofNat, BitVec.toNat_ofNat, Nat.mod_eq_of_lt ha, Nat.mod_eq_of_lt hb]
  exact u64_nat (Nat.lt_of_le_of_lt Nat.and_le_left ha)
theorem u_or {a b : Nat} (ha : a < 18446744073709551616) (hb : b < 18446744073709551616) : bits .or .u64 (a : Int) (b : Int) = ((a ||| b : Nat) : Int) := by
  show IntKind.u64.wrap (((BitVec.ofInt 64 (a : Int) ||| BitVec.ofInt 64 (b : Int)).toNat : Nat) : Int) = _
  rw [BitVec.toNat_or, BitVec.ofInt_natCast, BitVec.ofInt_natCast, BitVec.toNat_ofNat, BitVec.toNat_ofNat, Nat.mod_eq_of_lt ha, Nat.mod_eq_of_lt hb]
  exact u64_nat (Nat.or_lt_two_pow (n := 64) ha hb)
theorem set_lt {m i : Nat} (hm : m < 1048576) (hi : i < 20) : (m ||| (1 <<< i)) < 1048576 :=
  Nat.or_lt_two_pow (n := 20) hm (by rw [Nat.one_shiftLeft]; exact Nat.pow_lt_pow_right (by omega) hi)
theorem has_eq (m i : Nat) (hm : m < 1048576) : (bits .and .u64 ((m : Int) / 2 ^ i) 1 == 1) = m.testBit i := by
  have e : ((m : Int) / 2 ^ i) = ((m / 2 ^ i : Nat) : Int) := by rw [Int.natCast_ediv, Int.natCast_pow]; rfl
  have h1 : m / 2 ^ i < 18446744073709551616 := Nat.lt_of_le_of_lt (Nat.div_le_self _ _) (by omega)
  have h2 := u_and h1 (show 1 < 18446744073709551616 by omega)
  rw [e, show (1 : Int) = ((1 : Nat) : Int) from rfl, h2, Nat.and_one_is_mod, Nat.testBit_eq_decide_div_mod_eq]
  rw [Bool.eq_iff_iff]
  simp
  omega
theorem with_eq (m i : Nat) (hm : m < 1048576) (hi : i < 20) : bits .or .u64 (m : Int) (IntKind.u64.wrap (2 ^ i)) = ((m ||| (1 <<< i) : Nat) : Int) := by
  have h0 : 2 ^ i < 1048576 := Nat.pow_lt_pow_right (m := i) (n := 20) (a := 2) (by omega) hi
  have e : ((2 : Int) ^ i) = ((2 ^ i : Nat) : Int) := by rw [Int.natCast_pow]; rfl
  rw [e, u64_nat (by omega), u_or (by omega) (by omega), Nat.one_shiftLeft]
end Go.Proofs.Ytaaloepoegehkaa

/- Chapter 9: orders, plain; mayCome of the program. -/
namespace Go.Proofs.Ytaaloepoegehkaa
open Go.RowKit
set_option linter.unusedVariables false
set_option maxRecDepth 100000

theorem hasI_cons (x : Int) (xs : List Int) (n : Int) : hasI (x :: xs) n = ((x == n) || hasI xs n) := rfl
def setOf (xs : List Int) : Nat := xs.foldl (fun m x => m ||| (1 <<< x.toNat)) 0
theorem setOf_snoc {xs : List Int} {k : Nat} (h : k < xs.length) : setOf (xs.take (k + 1)) = setOf (xs.take k) ||| (1 <<< xs[k].toNat) := by
  unfold setOf; rw [List.take_succ_eq_append_getElem h, List.foldl_append]; rfl
theorem setFrom_lt : ∀ {xs : List Int} {m : Nat}, m < 1048576 → (∀ x ∈ xs, 0 ≤ x ∧ x < 20) → xs.foldl (fun m x => m ||| (1 <<< x.toNat)) m < 1048576
  | [], m, hm, _ => hm
  | x :: xs, m, hm, h => setFrom_lt (xs := xs) (set_lt hm (by have := h x (by simp); omega)) fun y hy => h y (by simp [hy])
theorem setOf_lt {xs : List Int} (h : ∀ x ∈ xs, 0 ≤ x ∧ x < 20) : setOf xs < 1048576 := setFrom_lt (by omega) h
theorem setFrom_bit (i : Nat) : ∀ {xs : List Int} {m : Nat}, (∀ x ∈ xs, 0 ≤ x ∧ x < 20) → (xs.foldl (fun m x => m ||| (1 <<< x.toNat)) m).testBit i = (m.testBit i || hasI xs i)
  | [], m, _ => by simp [hasI]
  | x :: xs, m, h => by
    have hx := h x (by simp)
    show (xs.foldl (fun m x => m ||| (1 <<< x.toNat)) (m ||| (1 <<< x.toNat))).testBit i = _
    rw [setFrom_bit i (xs := xs) fun y hy => h y (by simp [hy]), Nat.testBit_or, Nat.one_shiftLeft, Nat.testBit_two_pow, hasI_cons, Bool.or_assoc]
    have : decide (x.toNat = i) = (x == (i : Int)) := by
      rw [Bool.eq_iff_iff]; simp; omega
    rw [this]
theorem setOf_bit {xs : List Int} (i : Nat) (h : ∀ x ∈ xs, 0 ≤ x ∧ x < 20) : (setOf xs).testBit i = hasI xs i := by
  unfold setOf; rw [setFrom_bit i h]; simp

/-- Whether the needs of j among the first k instructions have come. -/
def ndIn (cs : List In) (xs : List Int) (j k : Nat) : Bool := (ndL cs j k).all fun d => hasI xs d.1
theorem ndIn_yes {cs : List In} {xs : List Int} {j k : Nat} (h : 0 ≤ dT cs k j) : ndIn cs xs j (k + 1) = (ndIn cs xs j k && hasI xs k) := by
  unfold ndIn; rw [ndL_yes h, List.all_append]; simp
theorem ndIn_no {cs : List In} {xs : List Int} {j k : Nat} (h : ¬ 0 ≤ dT cs k j) : ndIn cs xs j (k + 1) = ndIn cs xs j k := by
  unfold ndIn; rw [ndL_no h]
theorem ndIn_false {cs : List In} {xs : List Int} {j k : Nat} (h : ndIn cs xs j k = false) : ∀ {n : Nat}, k ≤ n → ndIn cs xs j n = false
  | 0, hn => by obtain rfl : k = 0 := by omega
                exact h
  | n + 1, hn => by
    rcases Nat.lt_or_ge n k with h1 | h1
    · obtain rfl : k = n + 1 := by omega
      exact h
    · have ih := ndIn_false h h1
      by_cases hd : 0 ≤ dT cs n j
      · rw [ndIn_yes hd, ih]; rfl
      · rw [ndIn_no hd, ih]
/-- Whether an index may come next. -/
def mayB (cs : List In) (xs : List Int) (j : Nat) : Bool := ndIn cs xs j cs.length && !hasI xs j
def stpB (cs : List In) (xs : List Int) (j : Int) : Bool := inR j 0 ((cs.length : Int) - 1) && mayB cs xs j.toNat
def ordP (cs : List In) (order : List Int) (k : Nat) : Bool := (List.range k).all fun q => stpB cs (order.take q) (order.getD q 0)
theorem ordP_succ (cs : List In) (order : List Int) (k : Nat) : ordP cs order (k + 1) = (ordP cs order k && stpB cs (order.take k) (order.getD k 0)) := by
  unfold ordP; rw [List.range_succ, List.all_append]; simp
theorem ordP_false {cs : List In} {order : List Int} {k : Nat} (h : ordP cs order k = false) : ∀ {n : Nat}, k ≤ n → ordP cs order n = false
  | 0, hn => by obtain rfl : k = 0 := by omega
                exact h
  | n + 1, hn => by
    rcases Nat.lt_or_ge n k with h1 | h1
    · obtain rfl : k = n + 1 := by omega
      exact h
    · rw [ordP_succ, ordP_false h h1]; rfl
theorem ordP_in {cs : List In} {order : List Int} {k : Nat} (hk : k ≤ order.length) (h : ordP cs order k = true) : ∀ x ∈ order.take k, 0 ≤ x ∧ x < cs.length := by
  intro x hx
  obtain ⟨q, hq, rfl⟩ := List.mem_take_iff_getElem.1 hx
  unfold ordP at h
  rw [List.all_eq_true] at h
  have h1 := h q (by simp; omega)
  unfold stpB at h1
  rw [Bool.and_eq_true, inR_iff, List.getD_eq_getElem?_getD, List.getElem?_eq_getElem (by omega), Option.getD_some] at h1
  omega
def ordB (cs : List In) (order : List Int) : Bool := (order.length == cs.length) && ordP cs order order.length
def isoB (cs : List In) (order : List Int) : Bool := orGood cs && ordB cs order

end Go.Proofs.Ytaaloepoegehkaa

/- Chapter 9: planOf of the program, where the code can be ordered. -/
namespace Go.Proofs.Ytaaloepoegehkaa
open Go.RowKit
set_option linter.unusedVariables false
set_option linter.unusedSimpArgs false
set_option maxRecDepth 100000

theorem cb_other {t : TypeId} {w : World} {g : Nat} {cur : List Value} (h : CB t w g cur) (p : Addr) (v : Value) (hp : p.block ≠ g) : CB t (w.setCell p v) g cur :=
  ((Chg.setCell (lo := p.block) (hi := p.block + 1) (Chg.refl p.block (p.block + 1) w) (p := p) ⟨Nat.le_refl _, Nat.lt_succ_self _⟩ v).block g h.lt (by omega)).trans h
/-- What stands while the needs are gathered. -/
structure PSt (w1 : World) (g2 gn g6 : Nat) (R0 R1 P0 P1 : Value) (vs : List Value) (nss : List (List (Int × Int))) (W : World) : Prop where
  l0 : g2 < w1.heap.size
  l1 : w1.heap.size ≤ gn
  l2 : gn < g6
  res : PB W g2 R0 R1
  bx : PB W g6 P0 P1
  nb : CB 153 W gn vs
  rows : RowsN W (g6 + 1) vs nss
  be : Below w1.heap.size w1 W
theorem PSt.below {w1 W W' : World} {g2 gn g6 : Nat} {R0 R1 P0 P1 : Value} {vs : List Value} {nss : List (List (Int × Int))} (h : PSt w1 g2 gn g6 R0 R1 P0 P1 vs nss W) (hb : Below W.heap.size W W') : PSt w1 g2 gn g6 R0 R1 P0 P1 vs nss W' :=
  ⟨h.l0, h.l1, h.l2, CB.below h.res hb (CB.lt h.res), CB.below h.bx hb (CB.lt h.bx), h.nb.below hb h.nb.lt, h.rows.below hb, h.be.trans (hb.mono h.be.size)⟩
theorem PSt.grow {w1 W w' : World} {g2 gn g6 j : Nat} {R0 R1 P0 P1 : Value} {vs : List Value} {nss : List (List (Int × Int))} (h : PSt w1 g2 gn g6 R0 R1 P0 P1 vs nss W) (hj : j < vs.length) (hg : W.grownBy w' vs[j].ownBlock) :
    PB w' g2 R0 R1 ∧ PB w' g6 P0 P1 ∧ CB 153 w' gn vs ∧ Below w1.heap.size w1 w' := by
  have hlo : ∀ b, vs[j].ownBlock = some b → g6 + 1 ≤ b := fun b hb => ((h.rows.row j hj (by rw [← h.rows.len]; exact hj)).2.lo b hb).1
  have l0 := h.l0; have l1 := h.l1; have l2 := h.l2
  have ne : ∀ x, x ≤ g6 → vs[j].ownBlock ≠ some x := fun x hx e => by have := hlo x e; omega
  refine ⟨(hg.block g2 (CB.lt h.res) (fun e => ne g2 (by omega) e.symm)).trans h.res, (hg.block g6 (CB.lt h.bx) (fun e => ne g6 (by omega) e.symm)).trans h.bx, (hg.block gn h.nb.lt (fun e => ne gn (by omega) e.symm)).trans h.nb, h.be.grown hg h.be.size (fun b hb => by have := hlo b hb; omega)⟩
theorem PSt.stored {w1 W w' : World} {g2 gn g6 j n g cap : Nat} {R0 R1 P0 P1 : Value} {d : Int × Int} {vs : List Value} {nss : List (List (Int × Int))} (h : PSt w1 g2 gn g6 R0 R1 P0 P1 vs nss W) (hj : j < vs.length) (hj' : j < nss.length) (hg : W.grownBy w' vs[j].ownBlock)
    (hn : n = (nss[j]).length) (hown : w'.ownsRow (g6 + 1) 155 2 (.slice (some ⟨g, 0, none⟩) (n + 1) cap) (n + 1) ((nss[j]).flatMap ndE ++ ndE d)) (hat : vs[j].ownBlock = some g ∨ g = W.heap.size) (hlt : g < w'.heap.size) :
    PSt w1 g2 gn g6 R0 R1 P0 P1 (vs.set j (.slice (some ⟨g, 0, none⟩) (n + 1) cap)) (nss.set j (nss[j] ++ [d])) (w'.setCell ⟨gn, j, none⟩ (.slice (some ⟨g, 0, none⟩) (n + 1) cap)) := by
  obtain ⟨h1, h2, h3, h4⟩ := h.grow hj hg
  have l0 := h.l0; have l1 := h.l1; have l2 := h.l2
  refine ⟨l0, l1, l2, cb_other h1 _ _ (show gn ≠ g2 by omega), cb_other h2 _ _ (show gn ≠ g6 by omega), h3.set j _, ?_, h4.setCell (p := ⟨gn, j, none⟩) l1 _⟩
  exact (h.rows.push hj hj' hg hn hown hat hlt).chg ((Chg.refl gn (gn + 1) w').setCell (p := ⟨gn, j, none⟩) ⟨Nat.le_refl _, Nat.lt_succ_self _⟩ _) (by omega)

theorem PSt.open {w1 W : World} {g2 gn g6 j n : Nat} {R0 R1 P0 P1 : Value} {vs : List Value} {nss : List (List (Int × Int))} {ns : List (Int × Int)} (h : PSt w1 g2 gn g6 R0 R1 P0 P1 vs nss W) (hj' : j < nss.length) (hns : nss[j] = ns) (hn : n = ns.length) :
    ∃ Aj cj, W.cell? ⟨gn, j, none⟩ = some (.slice Aj n cj) ∧ W.ownsRow (g6 + 1) 155 2 (.slice Aj n cj) n (ns.flatMap ndE) ∧ ∀ w7, W.grownBy w7 (Value.slice Aj n cj).ownBlock →
      (∀ rb t, rb < w1.heap.size → w7.cell? ⟨rb, t, none⟩ = W.cell? ⟨rb, t, none⟩) ∧ w7.cell? ⟨g6, 1, none⟩ = some P1 ∧ w7.cell? ⟨gn, j, none⟩ = some (.slice Aj n cj) ∧ w7.frozen? ⟨gn, j, none⟩ = false ∧
      ∀ g cap d, w7.ownsRow (g6 + 1) 155 2 (.slice (some ⟨g, 0, none⟩) (n + 1) cap) (n + 1) (ns.flatMap ndE ++ ndE d) → ((Value.slice Aj n cj).ownBlock = some g ∨ g = W.heap.size) → g < w7.heap.size →
        ∃ vs', PSt w1 g2 gn g6 R0 R1 P0 P1 vs' (nss.set j (ns ++ [d])) (w7.setCell ⟨gn, j, none⟩ (.slice (some ⟨g, 0, none⟩) (n + 1) cap)) := by
  subst hns
  have hj : j < vs.length := by rw [h.rows.len]; exact hj'
  obtain ⟨⟨Aj, cj, e⟩, hO⟩ := h.rows.row j hj hj'
  rw [← hn] at e
  have hO1 := hO.1
  rw [e, ← hn] at hO1
  refine ⟨Aj, cj, by rw [h.nb.cell, List.getElem?_eq_getElem hj, e], hO1, fun w7 hg => ?_⟩
  rw [← e] at hg
  obtain ⟨h1, h2, h3, h4⟩ := h.grow hj hg
  refine ⟨fun rb t hrb => World.cell?_of_block (a := ⟨rb, t, none⟩) ((h4.block rb hrb).trans (h.be.block rb hrb).symm), h2.c1, by rw [h3.cell, List.getElem?_eq_getElem hj, e], h3.frozen j, fun g cap d ho hat hlt => ?_⟩
  rw [← e] at hat
  exact ⟨_, h.stored hj hj' hg hn ho hat hlt⟩
theorem ndsAt_row (cs : List In) (p : Nat) : ∀ ns ∈ ndsAt cs p, ns.length ≤ (dAll cs cs.length).length := by
  intro ns h
  unfold ndsAt at h
  rw [List.mem_map] at h
  obtain ⟨j, _, rfl⟩ := h
  unfold ndF
  refine Nat.le_trans (List.length_filterMap_le _ _) ?_
  rw [List.length_take]; omega
theorem nd_new (W : World) (d : Int × Int) (g : Nat) (hg : W.heap.size = g) : ∀ t u, (ndE d)[t]? = some u → (W.alloc (.cells #[.int .i64 d.1, .int .i64 d.2] 155)).drew.cell? ((⟨g, 0, none⟩ : Addr).add t) = some u := by
  intro t u hu
  subst hg
  have hc : CB 155 (W.alloc (.cells #[.int .i64 d.1, .int .i64 d.2] 155)) W.heap.size (ndE d) := heap_alloc_new W _
  rw [addr_add]
  exact (hc.cell t).trans hu
theorem nd_one (d : Int × Int) : ∀ u ∈ ndE d, u.oneCell' = true := by
  intro u hu
  simp [ndE] at hu
  rcases hu with rfl | rfl <;> rfl
set_option maxHeartbeats 8000000 in
theorem planOf_yes (L B : Nat) (A : Option Addr) (c : Nat) (cs : List In) (w : World) (hg : orGood cs = true) (hl : cs.length ≤ 1048576) (hes : RS In.enc 5 w L B A cs) (hB : B ≤ w.heap.size) (hcap : cs.length ≤ c) :
    Calls Try.prog 83 #[.slice A cs.length c] w (GotPlan w A c cs) := by
  obtain ⟨i0, hi', hz0', hz1', hz2'⟩ := info_parts Try.infoNd
  have hJ0 := Lib.hid hi'
  have hJ1 := Lib.hid hz0'
  have hJ2 := Lib.hid hz1'
  have hJ3 := Lib.hid hz2'
  clear hi' hz0' hz1' hz2'
  have hb0 := Lib.hid ((Below.refl w.heap.size w).alloc (Nat.le_refl _) (.cells #[.slice none 0 0, .slice none 0 0] 97))
  have hP0 := Lib.hid (PB.new w (.slice none 0 0) (.slice none 0 0))
  have H := Lib.hid (iDependsOf_k L B A c cs (w.alloc (.cells #[.slice none 0 0, .slice none 0 0] 97)) hl (hes.below hb0.out hB) (Nat.le_trans hB hb0.out.size) hcap)
  have hz0 : w.heap.size < (w.alloc (.cells #[.slice none 0 0, .slice none 0 0] 97)).heap.size := by simp
  have h20 := (orGood_parts hg).1
  have hLd := dAll_len20 h20
  have hmk := run_make_nds cs.length (by omega)
  rw [hg, dpR_yes hg] at H
  have hN0 := Lib.hid (ndsAt_zero cs)
  have hNe := Lib.hid (ndsAt_end cs)
  have hNl := Lib.hid (ndsAt_len cs)
  have hNr := Lib.hid (ndsAt_row cs)
  have hSu := Lib.hid fun (p : Nat) (h : p < (dAll cs cs.length).length) => ndsAt_succ h
  clear hes hg hB hl
  generalize dAll cs cs.length = ds at *
  generalize ndsAt cs = NA at *
  generalize dT cs = E at *
  go_enter Try.func83, Try.ntmps83
  go_wp2_with (fail)
  refine H.out.mono ?_
  rintro e w1 ⟨A1, c1, rfl, ho1, hb1⟩
  have hB1 := Lib.hid (hb0.out.trans (hb1.mono (by simp)))
  have hP1 := Lib.hid (CB.below hP0.out hb1 hz0)
  have hX1 := Lib.hid (OX.rs ho1)
  have hz1 : w.heap.size < w1.heap.size := by have := hb1.size; omega
  have hSt : Hid (PSt w1 w.heap.size w1.heap.size (w1.heap.size + 1) (.slice none 0 0) (.slice none 0 0) (.slice A cs.length c) (.slice (some ⟨w1.heap.size, 0, none⟩) cs.length cs.length) (List.replicate cs.length (Value.slice none 0 0)) (List.replicate cs.length [])
      ((w1.alloc (.cells (Array.replicate cs.length (Value.slice none 0 0)) 153)).alloc (.cells #[.slice A cs.length c, .slice (some ⟨w1.heap.size, 0, none⟩) cs.length cs.length] 97))) := by
    rw [← List.toArray_replicate]
    have a1 := (Below.refl w1.heap.size w1).alloc (Nat.le_refl _) (.cells (List.replicate cs.length (Value.slice none 0 0)).toArray 153)
    have a2 := (Below.refl _ (w1.alloc (.cells (List.replicate cs.length (Value.slice none 0 0)).toArray 153))).alloc (Nat.le_refl _) (.cells #[.slice A cs.length c, .slice (some ⟨w1.heap.size, 0, none⟩) cs.length cs.length] 97)
    have n1 : CB 153 (w1.alloc (.cells (List.replicate cs.length (Value.slice none 0 0)).toArray 153)) w1.heap.size (List.replicate cs.length (Value.slice none 0 0)) := heap_alloc_new w1 _
    have n2 := PB.new (w1.alloc (.cells (List.replicate cs.length (Value.slice none 0 0)).toArray 153)) (.slice A cs.length c) (.slice (some ⟨w1.heap.size, 0, none⟩) cs.length cs.length)
    rw [World.size_alloc] at n2
    exact ⟨hz1, Nat.le_refl _, Nat.lt_succ_self _, CB.below (CB.below hP1.out a1 hz1) a2 (by simp; omega), n2, n1.below a2 (by simp), RowsN.nil _ _ _, a1.trans (a2.mono a1.size)⟩
  clear ho1 hb1 hz0 hP1
  go_wp2_with (fail)
  clear hmk
  generalize (w1.alloc (.cells (Array.replicate cs.length (Value.slice none 0 0)) 153)).alloc (.cells #[.slice A cs.length c, .slice (some ⟨w1.heap.size, 0, none⟩) cs.length cs.length] 97) = W2 at *
  generalize hgn : w1.heap.size = gn at hSt ⊢
  have hGn := Lib.hid hgn
  clear hgn
  go_loopw [24] (fun q wr => ∃ (p : Nat) (vs : List Value), p ≤ ds.length ∧ q = .int .i64 p ∧ PSt w1 w.heap.size gn (gn + 1) (.slice none 0 0) (.slice none 0 0) (.slice A cs.length c) (.slice (some ⟨gn, 0, none⟩) cs.length cs.length) vs (NA p) wr) (fun q _ => ds.length - (intOf q).toNat)
  case atStart => exact ⟨0, _, Nat.zero_le _, rfl, by rw [hN0.out]; exact hSt.out⟩
  case round =>
    obtain ⟨p, vs, hp, rfl, hS⟩ := hrel
    have hs := Lib.hid hS
    clear hS hSt
    by_cases hlt : p < ds.length
    · obtain ⟨i, j, hij, hjn, hE, hds, hNs⟩ := hSu.out p hlt
      have hpi : (p : Int) < (ds.length : Int) := by omega
      have hp0 : (0 : Int) ≤ (p : Int) := by omega
      obtain ⟨xb, xo, Ai, ci, rfl, hxb, xc0, hI⟩ := XS.at hX1.out hlt
      rw [hds] at xc0 hI
      obtain ⟨rb, ro, rfl, ⟨_, hrb⟩, hcc⟩ := hI (by simp)
      have y0 := (hs.out.be.cell (p := ⟨rb, ro + 0, none⟩) hrb).trans (hcc 0 (by simp))
      have y1 := (hs.out.be.cell (p := ⟨rb, ro + 1, none⟩) hrb).trans (hcc 1 (by simp))
      have y2 := (hs.out.be.cell (p := ⟨rb, ro + 2, none⟩) hrb).trans (hcc 2 (by simp))
      have xc := (hs.out.be.cell (p := ⟨xb, xo + p, none⟩) hxb).trans xc0
      simp only [List.getElem_cons_zero, List.getElem_cons_succ, Nat.add_zero] at y0 y1 y2
      have b1 := hs.out.bx.c1
      have hjl : j < (NA p).length := by rw [hNl.out]; exact hjn
      have hji : (j : Int) < (cs.length : Int) := by omega
      have hj0 : (0 : Int) ≤ (j : Int) := by omega
      rw [List.getD_eq_getElem?_getD, List.getElem?_eq_getElem hjl, Option.getD_some] at hNs
      have hlen3 : ([(i : Int), (j : Int), E i j] : List Int).length = 3 := rfl
      rw [hlen3] at xc
      generalize E i j = e9 at *
      obtain ⟨ns, hns⟩ : ∃ ns, (NA p)[j] = ns := ⟨_, rfl⟩
      rw [hns] at hNs
      obtain ⟨n, hn⟩ : ∃ n, n = ns.length := ⟨_, rfl⟩
      have hNS := Lib.hid hNs
      have a3 := ((Below.refl wr.heap.size wr).alloc (Nat.le_refl _) (.cells #[.int .i64 i, .int .i64 e9] 155)).drew
      obtain ⟨A0, c0, r0, _, _⟩ := hs.out.open hjl hns hn
      obtain ⟨Aj, cj, r1, HL, HG⟩ := (hs.out.below a3).open hjl hns hn
      have r01 : (Value.slice A0 n c0) = .slice Aj n cj := by
        have h5 := hs.out.nb.lt
        have h6 := (a3.cell (p := ⟨gn, j, none⟩) h5).symm.trans r1
        exact Option.some.inj (r0.symm.trans h6)
      rw [r01] at r0
      have HL := Lib.hid HL
      have HG := Lib.hid HG
      have HN := Lib.hid (nd_new wr ((i : Int), e9) wr.heap.size rfl)
      have H1 := Lib.hid (nd_one ((i : Int), e9))
      have hbs := Lib.hid (show gn + 1 + 1 ≤ wr.heap.size from CB.lt hs.out.bx)
      have hn4 : Hid (n ≤ 1048576) := by rw [Hid, hn, ← hns]; exact Nat.le_trans (hNr.out p _ (List.getElem_mem hjl)) (by omega)
      have hne : gn ≠ gn + 1 := by omega
      have hrbn : rb ≠ gn := by have := hGn.out; omega
      have z0 := Lib.hid ((a3.cell (p := ⟨rb, ro, none⟩) (by have := hbs.out; have := hGn.out; show rb < _; omega)).trans y0)
      have z1 := Lib.hid ((a3.cell (p := ⟨rb, ro + 1, none⟩) (by have := hbs.out; have := hGn.out; show rb < _; omega)).trans y1)
      have z2 := Lib.hid ((a3.cell (p := ⟨rb, ro + 2, none⟩) (by have := hbs.out; have := hGn.out; show rb < _; omega)).trans y2)
      have hrbw := Lib.hid hrb
      have hrbm : gn ≠ rb := fun e => hrbn e.symm
      clear hcc hI xc0 hds hij hE hNs hns hn a3 hrb
      go_wp2_with (fail)
      clear xc
      -- REGION 8 BEGIN
      have hS0 : (fun w' => w'.cell? ⟨gn + 1, 1, none⟩ = some (.slice (some ⟨gn, 0, none⟩) cs.length cs.length) ∧ w'.cell? ⟨rb, ro, none⟩ = some (.int .i64 i) ∧ w'.cell? ⟨rb, ro + 1, none⟩ = some (.int .i64 j) ∧ w'.cell? ⟨rb, ro + 2, none⟩ = some (.int .i64 e9)) wr.drew := ⟨b1, y0, y1, y2⟩
      have b1a : (wr.alloc (.cells #[.int .i64 i, .int .i64 e9] 155)).drew.cell? ⟨gn + 1, 1, none⟩ = some (.slice (some ⟨gn, 0, none⟩) cs.length cs.length) := (((Below.refl wr.heap.size wr).alloc (Nat.le_refl _) (.cells #[.int .i64 i, .int .i64 e9] 155)).drew.cell (p := ⟨gn + 1, 1, none⟩) hbs.out).trans b1
      have hSa : (fun w' => w'.cell? ⟨gn + 1, 1, none⟩ = some (.slice (some ⟨gn, 0, none⟩) cs.length cs.length) ∧ w'.cell? ⟨rb, ro, none⟩ = some (.int .i64 i) ∧ w'.cell? ⟨rb, ro + 1, none⟩ = some (.int .i64 j) ∧ w'.cell? ⟨rb, ro + 2, none⟩ = some (.int .i64 e9)) (wr.alloc (.cells #[.int .i64 i, .int .i64 e9] 155)).drew := ⟨b1a, z0.out, z1.out, z2.out⟩
      refine wp_region_held (S := fun w' => w'.cell? ⟨gn + 1, 1, none⟩ = some (.slice (some ⟨gn, 0, none⟩) cs.length cs.length) ∧ w'.cell? ⟨rb, ro, none⟩ = some (.int .i64 i) ∧ w'.cell? ⟨rb, ro + 1, none⟩ = some (.int .i64 j) ∧ w'.cell? ⟨rb, ro + 2, none⟩ = some (.int .i64 e9)) (by kernel_rfl) ?_
      change wpAnyH _ _ _ _ _ _ _ _ (World.drew _)
      refine wpAnyH_take (i := 0) (v := ?_) rfl (by kernel_rfl) (by kernel_rfl) (by kernel_rfl) (fun _ _ _ h => h) (Or.inl ⟨by rfl, ?_⟩) (by assumption) ?_
      rotate_left 1
      · (intro w hSw; (try dsimp only at hSw); go_simp; try with_reducible rfl)
      try simp only [Act.put, List.setIfInBounds_toArray, List.set_cons_zero, List.set_cons_succ]
      refine wpAnyH_take (i := 1) (v := ?_) rfl (by kernel_rfl) (by kernel_rfl) (by kernel_rfl) (fun _ _ _ h => h) (Or.inl ⟨by rfl, ?_⟩) (by assumption) ?_
      rotate_left 1
      · (intro w hSw; (try dsimp only at hSw); go_simp; try with_reducible rfl)
      try simp only [Act.put, List.setIfInBounds_toArray, List.set_cons_zero, List.set_cons_succ]
      refine wpAnyH_take (i := 2) (v := ?_) rfl (by kernel_rfl) (by kernel_rfl) (by kernel_rfl) (fun _ _ _ h => h) (Or.inl ⟨by rfl, ?_⟩) (by assumption) ?_
      rotate_left 1
      · (intro w hSw; (try dsimp only at hSw); go_simp; try with_reducible rfl)
      try simp only [Act.put, List.setIfInBounds_toArray, List.set_cons_zero, List.set_cons_succ]
      refine wpAnyH_take (i := 3) (v := ?_) rfl (by kernel_rfl) (by kernel_rfl) (by kernel_rfl) (fun _ _ _ h => h) (Or.inl ⟨by rfl, ?_⟩) (by assumption) ?_
      rotate_left 1
      · (intro w hSw; (try dsimp only at hSw); go_simp; try with_reducible rfl)
      try simp only [Act.put, List.setIfInBounds_toArray, List.set_cons_zero, List.set_cons_succ]
      refine wpAnyH_take (i := 4) (v := ?_) rfl (by kernel_rfl) (by kernel_rfl) (by kernel_rfl) (fun _ _ _ h => h) (Or.inl ⟨by rfl, ?_⟩) (by assumption) ?_
      rotate_left 1
      · (intro w hSw; (try dsimp only at hSw); go_simp; try with_reducible rfl)
      try simp only [Act.put, List.setIfInBounds_toArray, List.set_cons_zero, List.set_cons_succ]
      refine wpAnyH_take (i := 5) (v := ?_) rfl (by kernel_rfl) (by kernel_rfl) (by kernel_rfl) (fun _ _ _ h => h) (Or.inl ⟨by rfl, ?_⟩) (by assumption) ?_
      rotate_left 1
      · (intro w hSw; (try dsimp only at hSw); go_simp; try with_reducible rfl)
      try simp only [Act.put, List.setIfInBounds_toArray, List.set_cons_zero, List.set_cons_succ]
      refine wpAnyH_take (i := 6) (v := ?_) rfl (by kernel_rfl) (by kernel_rfl) (by kernel_rfl) (fun _ _ _ h => h) (Or.inl ⟨by rfl, ?_⟩) (by assumption) ?_
      rotate_left 1
      · (intro w hSw; (try dsimp only at hSw); go_simp; try with_reducible rfl)
      try simp only [Act.put, List.setIfInBounds_toArray, List.set_cons_zero, List.set_cons_succ]
      refine wpAnyH_take (i := 7) (v := ?_) rfl (by kernel_rfl) (by kernel_rfl) (by kernel_rfl) (fun _ _ _ h => h) (Or.inl ⟨by rfl, ?_⟩) (by assumption) ?_
      rotate_left 1
      · (intro w hSw; (try dsimp only at hSw); go_simp; try with_reducible rfl)
      try simp only [Act.put, List.setIfInBounds_toArray, List.set_cons_zero, List.set_cons_succ]
      refine wpAnyH_take (i := 8) (v := ?_) rfl (by kernel_rfl) (by kernel_rfl) (by kernel_rfl) (fun _ _ _ h => h) (Or.inl ⟨by rfl, ?_⟩) (by assumption) ?_
      rotate_left 1
      · (intro w hSw; (try dsimp only at hSw); go_simp; try with_reducible rfl)
      try simp only [Act.put, List.setIfInBounds_toArray, List.set_cons_zero, List.set_cons_succ]
      refine wpAnyH_take (i := 9) (v := ?_) rfl (by kernel_rfl) (by kernel_rfl) (by kernel_rfl) (fun _ _ _ h => h) (Or.inl ⟨by rfl, ?_⟩) (by assumption) ?_
      rotate_left 1
      · (intro w hSw; (try dsimp only at hSw); go_simp; try with_reducible rfl)
      try simp only [Act.put, List.setIfInBounds_toArray, List.set_cons_zero, List.set_cons_succ]
      refine wpAnyH_take (i := 10) (v := ?_) rfl (by kernel_rfl) (by kernel_rfl) (by kernel_rfl) (fun _ _ _ h => h) (Or.inl ⟨by rfl, ?_⟩) (by assumption) ?_
      rotate_left 1
      · (intro w hSw; (try dsimp only at hSw); go_simp; try with_reducible rfl)
      try simp only [Act.put, List.setIfInBounds_toArray, List.set_cons_zero, List.set_cons_succ]
      refine wpAnyH_take (i := 12) (v := ?_) rfl (by kernel_rfl) (by kernel_rfl) (by kernel_rfl) (fun _ _ _ h => h) (Or.inl ⟨by rfl, ?_⟩) (by assumption) ?_
      rotate_left 1
      · (intro w hSw; (try dsimp only at hSw); go_simp; try with_reducible rfl)
      try simp only [Act.put, List.setIfInBounds_toArray, List.set_cons_zero, List.set_cons_succ]
      refine wpAnyH_take (i := 13) (v := ?_) rfl (by kernel_rfl) (by kernel_rfl) (by kernel_rfl) (fun _ _ _ h => h) (Or.inl ⟨by rfl, ?_⟩) (by assumption) ?_
      rotate_left 1
      · (intro w hSw; (try dsimp only at hSw); go_simp; try with_reducible rfl)
      try simp only [Act.put, List.setIfInBounds_toArray, List.set_cons_zero, List.set_cons_succ]
      refine wpAnyH_take (i := 14) (v := ?_) rfl (by kernel_rfl) (by kernel_rfl) (by kernel_rfl) (fun _ _ _ h => h) (Or.inl ⟨by rfl, ?_⟩) (by assumption) ?_
      rotate_left 1
      · (intro w hSw; (try dsimp only at hSw); go_simp; try with_reducible rfl)
      try simp only [Act.put, List.setIfInBounds_toArray, List.set_cons_zero, List.set_cons_succ]
      refine wpAnyH_take (i := 15) (v := ?_) rfl (by kernel_rfl) (by kernel_rfl) (by kernel_rfl) (fun _ _ _ h => h) (Or.inl ⟨by rfl, ?_⟩) (by assumption) ?_
      rotate_left 1
      · (intro w hSw; (try dsimp only at hSw); go_simp; try with_reducible rfl)
      try simp only [Act.put, List.setIfInBounds_toArray, List.set_cons_zero, List.set_cons_succ]
      refine wpAnyH_take (i := 16) (v := ?_) rfl (by kernel_rfl) (by kernel_rfl) (by kernel_rfl) (fun _ _ _ h => h) (Or.inl ⟨by rfl, ?_⟩) (by assumption) ?_
      rotate_left 1
      · (intro w hSw; (try dsimp only at hSw); go_simp; try with_reducible rfl)
      try simp only [Act.put, List.setIfInBounds_toArray, List.set_cons_zero, List.set_cons_succ]
      refine wpAnyH_take (i := 17) (v := ?_) rfl (by kernel_rfl) (by kernel_rfl) (by kernel_rfl) (fun _ _ _ h => h) (Or.inl ⟨by rfl, ?_⟩) (by assumption) ?_
      rotate_left 1
      · (intro w hSw; (try dsimp only at hSw); go_simp; try with_reducible rfl)
      try simp only [Act.put, List.setIfInBounds_toArray, List.set_cons_zero, List.set_cons_succ]
      refine wpAnyH_take (i := 18) (v := ?_) rfl (by kernel_rfl) (by kernel_rfl) (by kernel_rfl) (fun _ _ _ h => h) (Or.inl ⟨by rfl, ?_⟩) (by assumption) ?_
      rotate_left 1
      · (intro w hSw; (try dsimp only at hSw); go_simp; try with_reducible rfl)
      try simp only [Act.put, List.setIfInBounds_toArray, List.set_cons_zero, List.set_cons_succ]
      refine wpAnyH_ready (rs := [11, 19]) (by kernel_rfl) (by simp) ?_
      refine AllReadyH.cons rfl (fun K hK => ?_) (AllReadyH.cons rfl (fun K hK => ?_) AllReadyH.nil)
      rotate_left 1
      · try simp only [List.getElem_toArray, List.getElem_cons_zero, List.getElem_cons_succ]
        go_simp
        refine hK.out _ _ (by first | exact hSa | exact hS0) (fun hHeld => ?_)
        clear hK K
        try simp only [Act.put, List.setIfInBounds_toArray, List.set_cons_zero, List.set_cons_succ]
        refine wpAnyH_ready (rs := [11]) (by kernel_rfl) (by simp) ?_
        refine AllReadyH.cons rfl (fun K hK => ?_) AllReadyH.nil
        try simp only [List.getElem_toArray, List.getElem_cons_zero, List.getElem_cons_succ]
        go_simp
        refine hK.out _ _ (by first | exact hS0 | exact hSa) (fun hHeld => ?_)
        clear hK K
        try simp only [Act.put, List.setIfInBounds_toArray, List.set_cons_zero, List.set_cons_succ]
        refine wpAnyH_ready (rs := [20]) (by kernel_rfl) (by simp) ?_
        refine AllReadyH.cons rfl (fun K hK => ?_) AllReadyH.nil
        refine step_append_lies _ rfl _ _ 153 rfl (gn + 1 + 1) 155 i0 _ 2 16 Try.underlying153 hJ0.out hJ1.out hJ2.out hJ3.out rfl (by decide) _ n _ (by rfl) HL.out ⟨wr.heap.size, 0, none⟩ 1 1 _ (by rfl) rfl HN.out H1.out (by omega) (by have := hn4.out; unfold maxLen; omega) (by have := hn4.out; omega) (by have := hbs.out; simp; omega) (wr.heap.size + 1) (by simp) ?_
        intro g' cap w7 hown7 hgr7 hat7 hlt7
        obtain ⟨k1, k2, k3, k4, k5⟩ := HG.out w7 hgr7
        have hw7 := hgr7.size
        have hrb7 : rb < w7.heap.size := by have h1 := hrbw.out; have h2 := hbs.out; have h3 := hGn.out; simp at hw7; omega
        have hgn7 : gn + 1 < w7.heap.size := by have h2 := hbs.out; simp at hw7; omega
        have y0' := (k1 rb ro hrbw.out).trans z0.out
        have y1' := (k1 rb (ro + 1) hrbw.out).trans z1.out
        have y2' := (k1 rb (ro + 2) hrbw.out).trans z2.out
        obtain ⟨vs', hfin⟩ := k5 g' cap _ hown7 (by simpa using hat7) hlt7
        have hFin := Lib.hid hfin
        have hrl : rb < gn := by have := hGn.out; have := hrbw.out; omega
        have c8 := (Chg.refl gn (gn + 1) w7).setCell (p := ⟨gn, j, none⟩) ⟨Nat.le_refl _, Nat.lt_succ_self _⟩ (.slice (some ⟨g', 0, none⟩) (n + 1) cap)
        have hS8 := And.intro ((c8.cell (p := ⟨gn + 1, 1, none⟩) hgn7 (.inr (Nat.le_refl _))).trans k2) (And.intro ((c8.cell (p := ⟨rb, ro, none⟩) hrb7 (.inl hrl)).trans y0') (And.intro ((c8.cell (p := ⟨rb, ro + 1, none⟩) hrb7 (.inl hrl)).trans y1') ((c8.cell (p := ⟨rb, ro + 2, none⟩) hrb7 (.inl hrl)).trans y2')))
        have hS8 := Lib.hid hS8
        clear k5 hown7 hgr7 hat7 hlt7 hfin k1 c8 hrl hrb7 hgn7 hw7
        refine hK.out _ _ (And.intro k2 (And.intro y0' (And.intro y1' y2'))) (fun hHeld => ?_)
        clear hK K
        try simp only [Act.put, List.setIfInBounds_toArray, List.set_cons_zero, List.set_cons_succ]
        refine wpAnyH_take (i := 21) (v := ?_) rfl (by kernel_rfl) (by kernel_rfl) (by kernel_rfl) (fun _ _ _ h => h) (Or.inl ⟨by rfl, ?_⟩) (by assumption) ?_
        rotate_left 1
        · (intro w hSw; (try dsimp only at hSw); go_simp; try with_reducible rfl)
        try simp only [Act.put, List.setIfInBounds_toArray, List.set_cons_zero, List.set_cons_succ]
        refine wpAnyH_ready (rs := [22]) (by kernel_rfl) (by simp) ?_
        refine AllReadyH.cons rfl (fun K hK => ?_) AllReadyH.nil
        try simp only [List.getElem_toArray, List.getElem_cons_zero, List.getElem_cons_succ]
        go_simp
        refine hK.out _ _ hS8.out (fun hHeld => ?_)
        clear hK K
        try simp only [Act.put, List.setIfInBounds_toArray, List.set_cons_zero, List.set_cons_succ]
        refine wpAnyH_done (by kernel_rfl) ?_ _
        try simp only [Act.put, List.setIfInBounds_toArray, List.set_cons_zero, List.set_cons_succ]
        go_wp2
        go_roundw
        case rel => exact ⟨p + 1, vs', by omega, by go_num, by rw [hNS.out]; exact hFin.out⟩
        case measure => simp [intOf]; omega
      · try simp only [List.getElem_toArray, List.getElem_cons_zero, List.getElem_cons_succ]
        go_simp
        refine hK.out _ _ (by first | exact hS0 | exact hSa) (fun hHeld => ?_)
        clear hK K
        try simp only [Act.put, List.setIfInBounds_toArray, List.set_cons_zero, List.set_cons_succ]
        refine wpAnyH_ready (rs := [19]) (by kernel_rfl) (by simp) ?_
        refine AllReadyH.cons rfl (fun K hK => ?_) AllReadyH.nil
        try simp only [List.getElem_toArray, List.getElem_cons_zero, List.getElem_cons_succ]
        go_simp
        refine hK.out _ _ (by first | exact hS0 | exact hSa) (fun hHeld => ?_)
        clear hK K
        try simp only [Act.put, List.setIfInBounds_toArray, List.set_cons_zero, List.set_cons_succ]
        refine wpAnyH_ready (rs := [20]) (by kernel_rfl) (by simp) ?_
        refine AllReadyH.cons rfl (fun K hK => ?_) AllReadyH.nil
        refine step_append_lies _ rfl _ _ 153 rfl (gn + 1 + 1) 155 i0 _ 2 16 Try.underlying153 hJ0.out hJ1.out hJ2.out hJ3.out rfl (by decide) _ n _ (by rfl) HL.out ⟨wr.heap.size, 0, none⟩ 1 1 _ (by rfl) rfl HN.out H1.out (by omega) (by have := hn4.out; unfold maxLen; omega) (by have := hn4.out; omega) (by have := hbs.out; simp; omega) (wr.heap.size + 1) (by simp) ?_
        intro g' cap w7 hown7 hgr7 hat7 hlt7
        obtain ⟨k1, k2, k3, k4, k5⟩ := HG.out w7 hgr7
        have hw7 := hgr7.size
        have hrb7 : rb < w7.heap.size := by have h1 := hrbw.out; have h2 := hbs.out; have h3 := hGn.out; simp at hw7; omega
        have hgn7 : gn + 1 < w7.heap.size := by have h2 := hbs.out; simp at hw7; omega
        have y0' := (k1 rb ro hrbw.out).trans z0.out
        have y1' := (k1 rb (ro + 1) hrbw.out).trans z1.out
        have y2' := (k1 rb (ro + 2) hrbw.out).trans z2.out
        obtain ⟨vs', hfin⟩ := k5 g' cap _ hown7 (by simpa using hat7) hlt7
        have hFin := Lib.hid hfin
        have hrl : rb < gn := by have := hGn.out; have := hrbw.out; omega
        have c8 := (Chg.refl gn (gn + 1) w7).setCell (p := ⟨gn, j, none⟩) ⟨Nat.le_refl _, Nat.lt_succ_self _⟩ (.slice (some ⟨g', 0, none⟩) (n + 1) cap)
        have hS8 := And.intro ((c8.cell (p := ⟨gn + 1, 1, none⟩) hgn7 (.inr (Nat.le_refl _))).trans k2) (And.intro ((c8.cell (p := ⟨rb, ro, none⟩) hrb7 (.inl hrl)).trans y0') (And.intro ((c8.cell (p := ⟨rb, ro + 1, none⟩) hrb7 (.inl hrl)).trans y1') ((c8.cell (p := ⟨rb, ro + 2, none⟩) hrb7 (.inl hrl)).trans y2')))
        have hS8 := Lib.hid hS8
        clear k5 hown7 hgr7 hat7 hlt7 hfin k1 c8 hrl hrb7 hgn7 hw7
        refine hK.out _ _ (And.intro k2 (And.intro y0' (And.intro y1' y2'))) (fun hHeld => ?_)
        clear hK K
        try simp only [Act.put, List.setIfInBounds_toArray, List.set_cons_zero, List.set_cons_succ]
        refine wpAnyH_take (i := 21) (v := ?_) rfl (by kernel_rfl) (by kernel_rfl) (by kernel_rfl) (fun _ _ _ h => h) (Or.inl ⟨by rfl, ?_⟩) (by assumption) ?_
        rotate_left 1
        · (intro w hSw; (try dsimp only at hSw); go_simp; try with_reducible rfl)
        try simp only [Act.put, List.setIfInBounds_toArray, List.set_cons_zero, List.set_cons_succ]
        refine wpAnyH_ready (rs := [22]) (by kernel_rfl) (by simp) ?_
        refine AllReadyH.cons rfl (fun K hK => ?_) AllReadyH.nil
        try simp only [List.getElem_toArray, List.getElem_cons_zero, List.getElem_cons_succ]
        go_simp
        refine hK.out _ _ hS8.out (fun hHeld => ?_)
        clear hK K
        try simp only [Act.put, List.setIfInBounds_toArray, List.set_cons_zero, List.set_cons_succ]
        refine wpAnyH_done (by kernel_rfl) ?_ _
        try simp only [Act.put, List.setIfInBounds_toArray, List.set_cons_zero, List.set_cons_succ]
        go_wp2
        go_roundw
        case rel => exact ⟨p + 1, vs', by omega, by go_num, by rw [hNS.out]; exact hFin.out⟩
        case measure => simp [intOf]; omega
      -- REGION 8 END
    · obtain rfl : p = ds.length := by omega
      have hN := hs.out
      rw [hNe.out] at hN
      have hB9 := Lib.hid (hB1.out.trans (hN.be.mono hB1.out.size))
      have hP9 := Lib.hid (PB.put hN.res (.slice A cs.length c) (.slice (some ⟨gn, 0, none⟩) cs.length cs.length))
      have hB8 := Lib.hid ((hB9.out.setCell (p := ⟨w.heap.size, 0, none⟩) (Nat.le_refl _) (.slice A cs.length c)).setCell (p := ⟨w.heap.size, 1, none⟩) (Nat.le_refl _) (.slice (some ⟨gn, 0, none⟩) cs.length cs.length))
      have hc8 : Chg w.heap.size (w.heap.size + 1) wr ((wr.setCell ⟨w.heap.size, 0, none⟩ (.slice A cs.length c)).setCell ⟨w.heap.size, 1, none⟩ (.slice (some ⟨gn, 0, none⟩) cs.length cs.length)) := ((Chg.refl _ _ wr).setCell (p := ⟨w.heap.size, 0, none⟩) ⟨Nat.le_refl _, Nat.lt_succ_self _⟩ _).setCell (p := ⟨w.heap.size, 1, none⟩) ⟨Nat.le_refl _, Nat.lt_succ_self _⟩ _
      have hl1 := hN.l1
      have hpn := Lib.hid (PN.of (L := w.heap.size) ((hc8.block gn hN.nb.lt (by omega)).trans hN.nb) (hN.rows.chg hc8 (by omega)) (by omega) (by omega))
      obtain ⟨q0, q1⟩ := And.intro (PB.c0 hN.res) (PB.c1 hN.res)
      have f0 := CB.frozen hN.res 0
      have f1 := CB.frozen hN.res 1
      obtain ⟨b0, b1⟩ := And.intro (PB.c0 hN.bx) (PB.c1 hN.bx)
      clear hN hc8
      go_wp2
      exact plan_ret rfl rfl rfl hP9.out rfl rfl ⟨_, _, rfl, hpn.out, hB8.out⟩
end Go.Proofs.Ytaaloepoegehkaa

namespace Go.Proofs.Ytaaloepoegehkaa
open Go.RowKit
set_option linter.unusedVariables false

def ResFirstOrder (R0 : List (Int)) (R1 : Bool) (w : World) (e : Ending) (w' : World) : Prop := ∃ (A0 : Option Addr) (c0 : Nat), e = .returned (.tuple #[.slice A0 R0.length c0, .bool R1]) ∧ OW w' w.heap.size w'.heap.size (.slice A0 R0.length c0) R0 ∧ Below w.heap.size w w'
def ResLengthOf (R0 : Int) (R1 : Bool) (w : World) (e : Ending) (w' : World) : Prop := e = .returned (.tuple #[.int .i64 R0, .bool R1]) ∧ Below w.heap.size w w'
def ResEarliestOf (R0 : List (Int)) (R1 : Bool) (w : World) (e : Ending) (w' : World) : Prop := ∃ (A0 : Option Addr) (c0 : Nat), e = .returned (.tuple #[.slice A0 R0.length c0, .bool R1]) ∧ OW w' w.heap.size w'.heap.size (.slice A0 R0.length c0) R0 ∧ Below w.heap.size w w'
def ResPathBound (R0 : Int) (R1 : Bool) (w : World) (e : Ending) (w' : World) : Prop := e = .returned (.tuple #[.int .i64 R0, .bool R1]) ∧ Below w.heap.size w w'
def ResWideBound (R0 : Int) (R1 : Bool) (w : World) (e : Ending) (w' : World) : Prop := e = .returned (.tuple #[.int .i64 R0, .bool R1]) ∧ Below w.heap.size w w'
def ResLatestOf (R0 : List (Int)) (R1 : Bool) (w : World) (e : Ending) (w' : World) : Prop := ∃ (A0 : Option Addr) (c0 : Nat), e = .returned (.tuple #[.slice A0 R0.length c0, .bool R1]) ∧ OW w' w.heap.size w'.heap.size (.slice A0 R0.length c0) R0 ∧ Below w.heap.size w w'
def ResIsOrder (R0 : Bool) (R1 : Bool) (w : World) (e : Ending) (w' : World) : Prop := e = .returned (.tuple #[.bool R0, .bool R1]) ∧ Below w.heap.size w w'
def ResIsSchedule (R0 : Bool) (R1 : Bool) (w : World) (e : Ending) (w' : World) : Prop := e = .returned (.tuple #[.bool R0, .bool R1]) ∧ Below w.heap.size w w'
end Go.Proofs.Ytaaloepoegehkaa

/- Chapter 9: IsOrder of the program. -/
namespace Go.Proofs.Ytaaloepoegehkaa
open Go.RowKit
set_option linter.unusedVariables false
set_option maxRecDepth 100000

end Go.Proofs.Ytaaloepoegehkaa

/- Chapter 9: IsOrder of the model. -/
namespace Go.Proofs.Ytaaloepoegehkaa
open Go.RowKit
set_option linter.unusedVariables false
set_option maxRecDepth 100000

theorem ordB_len {cs : List In} {xs : List Int} (h : xs.length ≠ cs.length) : ordB cs xs = false := by
  unfold ordB; rw [beq_eq_false_iff_ne.2 h]; rfl
theorem ordB_all {cs : List In} {xs : List Int} (h : allIn xs 0 ((cs.length : Int) - 1) = false) : ordB cs xs = false := by
  cases h2 : ordP cs xs xs.length
  · unfold ordB; rw [h2]; simp
  · have h3 := ordP_in (Nat.le_refl _) h2
    rw [List.take_length] at h3
    have h4 : allIn xs 0 ((cs.length : Int) - 1) = true := by
      unfold allIn; rw [List.all_eq_true]
      intro x hx
      rw [inR_iff]
      have := h3 x hx
      omega
    rw [h] at h4; cases h4
theorem allIn_at {xs : List Int} {lo hi : Int} (h : allIn xs lo hi = true) {k : Nat} (hk : k < xs.length) : lo ≤ xs[k] ∧ xs[k] ≤ hi := by
  unfold allIn at h
  rw [List.all_eq_true] at h
  exact (inR_iff _ _ _).1 (h _ (List.getElem_mem hk))

end Go.Proofs.Ytaaloepoegehkaa
