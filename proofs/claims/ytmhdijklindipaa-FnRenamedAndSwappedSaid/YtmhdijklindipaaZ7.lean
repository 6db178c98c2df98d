/- Texts of this proof, one behind the other: WM, WB, TA, AL, TAi, BH. -/
import Derived.Test.YtmhdijklindipaaF
import Derived.Test.YtmhdijklindipaaJ
import Derived.Test.YtmhdijklindipaaD2
import Derived.Test.YtmhdijklindipaaLI
import Derived.WalkKit
import Derived.WalkSpells
import Derived.WalkLawsBesides
import Derived.Lib.Hide
import Derived.Test.YtmhdijklindipaaMI
import Derived.Test.YtmhdijklindipaaZ12
import Derived.Test.YtmhdijklindipaaM2
import Derived.Test.YtmhdijklindipaaZ11
import Derived.Test.YtmhdijklindipaaCE
import Derived.Test.YtmhdijklindipaaK
import Derived.Lib.AppendZeros
/- What a node needs, and nodes moved to new places. No program. -/
namespace Go.Proofs.Ytmhdijklindipaa
open Go.RowKit
set_option linter.unusedVariables false

def setAll (ps : List Int) (b : List Bool) : List Bool := ps.foldl (fun b p => b.set p.toNat true) b
theorem setAll_len (ps : List Int) : ∀ b, (setAll ps b).length = b.length := by
  induction ps with
  | nil => intro b; rfl
  | cons a l ih => intro b; show (setAll l (b.set a.toNat true)).length = _; rw [ih, List.length_set]
theorem setAll_snoc (ps : List Int) (p : Int) (b : List Bool) : setAll (ps ++ [p]) b = (setAll ps b).set p.toNat true := by simp [setAll, List.foldl_append]
theorem getD_set_ne {b : List Bool} {i k : Nat} (x : Bool) (h : k ≠ i) : (b.set k x).getD i false = b.getD i false := by
  rw [List.getD_eq_getElem?_getD, List.getD_eq_getElem?_getD, List.getElem?_set_ne h]
theorem setAll_get {i : Nat} (ps : List Int) : ∀ b, (∀ p ∈ ps, p.toNat ≠ i) → (setAll ps b).getD i false = b.getD i false := by
  induction ps with
  | nil => intro b _; rfl
  | cons a l ih =>
    intro b h
    show (setAll l (b.set a.toNat true)).getD i false = _
    rw [ih _ (fun p hp => h p (by simp [hp])), getD_set_ne _ (h a (by simp))]
/-- Behind j parts of the node i. -/
def nstep (n : Nd) (i : Nat) (b : List Bool) (j : Nat) : List Bool := if b.getD i false = true then setAll ((parts n).take j) b else b
theorem nstep_len (n : Nd) (i : Nat) (b : List Bool) (j : Nat) : (nstep n i b j).length = b.length := by
  unfold nstep; split
  · exact setAll_len _ _
  · rfl
theorem nstep_zero (n : Nd) (i : Nat) (b : List Bool) : nstep n i b 0 = b := by unfold nstep; split <;> rfl
theorem nstep_self {n : Nd} {i : Nat} (b : List Bool) (j : Nat) (h : ∀ p ∈ parts n, 0 ≤ p ∧ p ≤ (i : Int) - 1) : (nstep n i b j).getD i false = b.getD i false := by
  unfold nstep; split
  · exact setAll_get _ _ (fun p hp => by have := h p (List.mem_of_mem_take hp); omega)
  · rfl
theorem nstep_succ {n : Nd} {i : Nat} {b : List Bool} {j : Nat} (hj : j < (parts n).length) (h : ∀ p ∈ parts n, 0 ≤ p ∧ p ≤ (i : Int) - 1) :
    (nstep n i b j).set ((parts n)[j]).toNat ((nstep n i b j).getD ((parts n)[j]).toNat false || b.getD i false) = nstep n i b (j + 1) := by
  unfold nstep
  by_cases hb : b.getD i false = true
  · rw [if_pos hb, if_pos hb, hb, Bool.or_true, List.take_succ_eq_append_getElem hj, setAll_snoc]
  · rw [if_neg hb, if_neg hb]
    have hb' : b.getD i false = false := by simpa using hb
    rw [hb', Bool.or_false]
    apply List.ext_getElem?
    intro q
    rw [List.getElem?_set]
    split
    · rename_i hq; subst hq
      split
      · rename_i hlt; rw [List.getD_eq_getElem?_getD, List.getElem?_eq_getElem hlt]; rfl
      · rename_i hge; rw [List.getElem?_eq_none (by omega)]
    · rfl
def nfull (n : Nd) (i : Nat) (b : List Bool) : List Bool := nstep n i b (parts n).length
def needFrom (es : List Nd) (root : Nat) : Nat → List Bool
  | 0 => (List.replicate (root + 1) false).set root true
  | k + 1 => nfull (es.getD (root - k) zeroNd) (root - k) (needFrom es root k)
theorem needFrom_len (es : List Nd) (root : Nat) : ∀ k, (needFrom es root k).length = root + 1 := by
  intro k
  induction k with
  | zero => simp [needFrom]
  | succ k ih => rw [needFrom, nfull, nstep_len, ih]
/-- What is needed when the nodes from q on have been seen. -/
def needTo (es : List Nd) (root q : Nat) : List Bool := needFrom es root (root + 1 - q)
def need (es : List Nd) (root : Nat) : List Bool := needTo es root 0
theorem needTo_len (es : List Nd) (root q : Nat) : (needTo es root q).length = root + 1 := needFrom_len _ _ _
theorem needTo_start (es : List Nd) (root : Nat) : needTo es root (root + 1) = (List.replicate (root + 1) false).set root true := by
  unfold needTo; rw [Nat.sub_self]; rfl
theorem needTo_step {es : List Nd} {root m : Nat} (hm : m ≤ root) (hr : root < es.length) : needTo es root m = nfull (es[m]'(by omega)) m (needTo es root (m + 1)) := by
  unfold needTo
  rw [show root + 1 - m = (root + 1 - (m + 1)) + 1 by omega, needFrom, show root - (root + 1 - (m + 1)) = m by omega, List.getD_eq_getElem?_getD, List.getElem?_eq_getElem (by omega)]
  rfl

/-- A node whose operands have new places. -/
def moved (n : Nd) (ps : List Int) : Nd := ⟨n.op, if 0 < ar n.op then ps.getD n.a.toNat 0 else 0, if 1 < ar n.op then ps.getD n.b.toNat 0 else 0, n.v⟩
def kp (es : List Nd) (nb : List Bool) (m : Nat) : Nat → List Int × List Nd
  | 0 => (zeros m, [])
  | k + 1 => if nb.getD k false = true then (((kp es nb m k).1).set k ((kp es nb m k).2.length : Int), (kp es nb m k).2 ++ [moved (es.getD k zeroNd) (kp es nb m k).1]) else kp es nb m k
def pl (es : List Nd) (nb : List Bool) (m k : Nat) : List Int := (kp es nb m k).1
def ke (es : List Nd) (nb : List Bool) (m k : Nat) : List Nd := (kp es nb m k).2
theorem pl_len (es : List Nd) (nb : List Bool) (m : Nat) : ∀ k, (pl es nb m k).length = m := by
  intro k
  induction k with
  | zero => simp [pl, kp, zeros]
  | succ k ih =>
    unfold pl kp; split
    · rw [List.length_set]; exact ih
    · exact ih
theorem ke_len (es : List Nd) (nb : List Bool) (m : Nat) : ∀ k, (ke es nb m k).length ≤ k := by
  intro k
  induction k with
  | zero => simp [ke, kp]
  | succ k ih =>
    unfold ke kp; split
    · rw [List.length_append]; simp only [List.length_cons, List.length_nil]; unfold ke at ih; omega
    · unfold ke at ih; omega
theorem kp_yes {es : List Nd} {nb : List Bool} {m k : Nat} (hk : k < es.length) (h : nb.getD k false = true) :
    pl es nb m (k + 1) = (pl es nb m k).set k ((ke es nb m k).length : Int) ∧ ke es nb m (k + 1) = ke es nb m k ++ [moved es[k] (pl es nb m k)] := by
  unfold pl ke
  rw [kp, if_pos h, List.getD_eq_getElem?_getD, List.getElem?_eq_getElem hk]
  exact ⟨rfl, rfl⟩
theorem kp_no {es : List Nd} {nb : List Bool} {m k : Nat} (h : nb.getD k false = false) : pl es nb m (k + 1) = pl es nb m k ∧ ke es nb m (k + 1) = ke es nb m k := by
  unfold pl ke
  rw [kp, if_neg (by rw [h]; decide)]
  exact ⟨rfl, rfl⟩
def keepL (es : List Nd) (root : Nat) : List Nd := ke es (need es root) (root + 1) (root + 1)
theorem getD_set_lt {ps : List Int} {i k : Nat} (x : Int) (h : i < k) : (ps.set k x).getD i 0 = ps.getD i 0 := by
  rw [List.getD_eq_getElem?_getD, List.getD_eq_getElem?_getD, List.getElem?_set_ne (by omega)]
theorem ar_cases_nd {n : Nd} {i : Int} (h : isNode n i = true) : (ar n.op = 0 ∧ isOne n.op = false ∧ isTwo n.op = false ∧ n.a = 0 ∧ n.b = 0) ∨ (ar n.op = 1 ∧ isOne n.op = true ∧ isTwo n.op = false ∧ 0 ≤ n.a ∧ n.a < i ∧ n.b = 0) ∨ (ar n.op = 2 ∧ isOne n.op = false ∧ isTwo n.op = true ∧ 0 ≤ n.a ∧ n.a < i ∧ 0 ≤ n.b ∧ n.b < i) := by
  unfold isNode at h
  unfold ar
  by_cases h1 : isIn n.op = true
  · rw [if_pos h1] at h
    simp only [Bool.and_eq_true, beq_iff_eq] at h
    have hx : n.op.toList = [105,110] := by simpa [isIn] using h1
    left; refine ⟨by simp [h1], ?_, ?_, h.1.1, h.1.2⟩ <;> simp [isOne, isTwo, twoOps, hx]
  · rw [if_neg h1] at h
    by_cases h2 : isConst n.op = true
    · rw [if_pos h2] at h
      simp only [Bool.and_eq_true, beq_iff_eq] at h
      have hx : n.op.toList = [99,111,110,115,116] := by simpa [isConst] using h2
      left; refine ⟨by simp [h2], ?_, ?_, h.1.1, h.1.2⟩ <;> simp [isOne, isTwo, twoOps, hx]
    · rw [if_neg h2] at h
      by_cases h3 : isOne n.op = true
      · rw [if_pos h3] at h
        simp only [Bool.and_eq_true, beq_iff_eq] at h
        have h4 := (inR_iff _ _ _).1 h.1.1
        have h5 : isTwo n.op = false := by
          cases h6 : isTwo n.op
          · rfl
          · have := two_not_one _ h6; rw [this] at h3; cases h3
        right; left; exact ⟨by simp [h1, h2, h3], h3, h5, h4.1, by omega, h.1.2⟩
      · rw [if_neg h3] at h
        simp only [Bool.and_eq_true, beq_iff_eq] at h
        have h4 := (inR_iff _ _ _).1 h.1.1.2
        have h5 := (inR_iff _ _ _).1 h.1.2
        right; right; exact ⟨by simp [h1, h2, h3, h.1.1.1], by simpa using h3, h.1.1.1, h4.1, by omega, h5.1, by omega⟩
theorem moved_set {n : Nd} {k : Nat} (h : isNode n k = true) (ps : List Int) (x : Int) : moved n (ps.set k x) = moved n ps := by
  unfold moved
  rcases ar_cases_nd h with ⟨h1, _, _, _, _⟩ | ⟨h1, _, _, h2, h3, _⟩ | ⟨h1, _, _, h2, h3, h4, h5⟩
  · simp [h1]
  · simp only [h1]; rw [getD_set_lt _ (by omega)]; simp
  · simp only [h1]; rw [getD_set_lt _ (by omega), getD_set_lt _ (by omega)]
end Go.Proofs.Ytmhdijklindipaa

/- Blocks of bools, boxes of a node; a node moved. -/
namespace Go.Proofs.Ytmhdijklindipaa
open Go.RowKit
set_option linter.unusedVariables false
set_option maxRecDepth 100000

def boolCells (bs : List Bool) : Array Value := (bs.map Value.bool).toArray
/-- A block of bools known whole. -/
def BB (w : World) (g : Nat) (bs : List Bool) : Prop := w.heap[g]? = some (.cells (boolCells bs) 4 (0, 0))
theorem BB.lt {w : World} {g : Nat} {bs : List Bool} (h : BB w g bs) : g < w.heap.size := by
  rcases Nat.lt_or_ge g w.heap.size with hlt | hge
  · exact hlt
  · unfold BB at h; rw [Array.getElem?_eq_none hge] at h; cases h
theorem BB.cell {w : World} {g : Nat} {bs : List Bool} (h : BB w g bs) (i : Nat) (hi : i < bs.length) : w.cell? ⟨g, i, none⟩ = some (.bool (bs.getD i false)) := by
  rw [cell_of_row w g i _ 4 (0, 0) h, List.getD_eq_getElem?_getD, List.getElem?_eq_getElem hi]; simp [boolCells, hi]
theorem BB.frozen {w : World} {g : Nat} {bs : List Bool} (h : BB w g bs) (i : Nat) : w.frozen? ⟨g, i, none⟩ = false := by
  unfold BB at h; simp [World.frozen?, h]
theorem BB.set {w : World} {g : Nat} {bs : List Bool} (h : BB w g bs) (i : Nat) (x : Bool) : BB (w.setCell ⟨g, i, none⟩ (.bool x)) g (bs.set i x) := by
  unfold BB at h ⊢
  simp [World.setCell, Array.getElem?_modify, h, boolCells, List.map_set]
theorem BB.next {w w' : World} {g : Nat} {bs : List Bool} (h : BB w g bs) (hb : Below w.heap.size w w') : BB w' g bs := (hb.block g h.lt).trans h
theorem BB.other {w : World} {g q : Nat} {bs : List Bool} (h : BB w g bs) (j : Nat) (x : Value) (hne : q ≠ g) : BB (w.setCell ⟨q, j, none⟩ x) g bs :=
  (Below.heap_setCell w ⟨q, j, none⟩ x g (by simpa using fun e => hne e.symm)).trans h
theorem Try.infoBool : (Try.prog.info? 4).map (fun i => (i.zero, i.size, i.bytes)) = some (some (.bool false), 1, 1) := by kernel_rfl
theorem run_make_bools (n : Nat) (hn : n ≤ 1048576) (W : World) : (Instr.makeSlice 209 (.int .i64 (n : Int)) (.int .i64 (n : Int))).run Try.prog W = .ok (.slice (some ⟨W.heap.size, 0, none⟩) n n) (W.alloc (.cells (boolCells (List.replicate n false)) 4)) := by
  obtain ⟨i0, hi, hz0, hz1, hz2⟩ := info_parts Try.infoBool
  have h := run_make (P := Try.prog) W 209 4 i0 _ Try.underlying209 hi hz0 .i64 .i64 n n (by omega) (by omega) (by rw [hz2]; omega) (by omega)
  rw [h]
  simp only [Int.toNat_natCast, hz1, Nat.mul_one]
  refine congrArg (fun c => Result.ok (Value.slice (some ⟨W.heap.size, 0, none⟩) n n) (W.alloc (.cells c 4))) ?_
  apply Array.ext'
  rw [boolCells, List.map_replicate]
  exact toList_madeCells_one _ _

/-- One node in a box. -/
def XN (w : World) (g : Nat) (n : Nd) : Prop := w.heap[g]? = some (.cells #[.string n.op, .int .i64 n.a, .int .i64 n.b, .int .i64 n.v] 40 (0, 0))
theorem XN.lt {w : World} {g : Nat} {n : Nd} (h : XN w g n) : g < w.heap.size := by
  rcases Nat.lt_or_ge g w.heap.size with hlt | hge
  · exact hlt
  · unfold XN at h; rw [Array.getElem?_eq_none hge] at h; cases h
theorem XN.next {w w' : World} {g : Nat} {n : Nd} (h : XN w g n) (hb : Below w.heap.size w w') : XN w' g n := (hb.block g h.lt).trans h
theorem XN.cells {w : World} {g : Nat} {n : Nd} (h : XN w g n) : w.cell? ⟨g, 0, none⟩ = some (.string n.op) ∧ w.cell? ⟨g, 1, none⟩ = some (.int .i64 n.a) ∧ w.cell? ⟨g, 2, none⟩ = some (.int .i64 n.b) ∧ w.cell? ⟨g, 3, none⟩ = some (.int .i64 n.v) := by
  have c := fun i => cell_of_row w g i _ 40 (0, 0) h
  exact ⟨c 0, c 1, c 2, c 3⟩
theorem XN.fz {w : World} {g : Nat} {n : Nd} (h : XN w g n) (i : Nat) : w.frozen? ⟨g, i, none⟩ = false := by
  unfold XN at h; simp [World.frozen?, h]
theorem XN.setA {w : World} {g : Nat} {n : Nd} (h : XN w g n) (x : Int) : XN (w.setCell ⟨g, 1, none⟩ (.int .i64 x)) g ⟨n.op, x, n.b, n.v⟩ := by
  unfold XN at h ⊢
  simp [World.setCell, Array.getElem?_modify, h]
theorem XN.setB {w : World} {g : Nat} {n : Nd} (h : XN w g n) (x : Int) : XN (w.setCell ⟨g, 2, none⟩ (.int .i64 x)) g ⟨n.op, n.a, x, n.v⟩ := by
  unfold XN at h ⊢
  simp [World.setCell, Array.getElem?_modify, h]
theorem XN.other {w : World} {g q : Nat} {n : Nd} (h : XN w g n) (j : Nat) (x : Value) (hne : q ≠ g) : XN (w.setCell ⟨q, j, none⟩ x) g n :=
  (Below.heap_setCell w ⟨q, j, none⟩ x g (by simpa using fun e => hne e.symm)).trans h
def put4 (w : World) (g : Nat) (n : Nd) : World := (((w.setCell ⟨g, 0, none⟩ (.string n.op)).setCell ⟨g, 1, none⟩ (.int .i64 n.a)).setCell ⟨g, 2, none⟩ (.int .i64 n.b)).setCell ⟨g, 3, none⟩ (.int .i64 n.v)
theorem XN.put4 {w : World} {g : Nat} {n : Nd} (h : XN w g n) (m : Nd) : XN (put4 w g m) g m := by
  unfold XN Go.Proofs.Ytmhdijklindipaa.put4 at *
  simp [World.setCell, Array.getElem?_modify, h]
theorem below_put4 {w w' : World} {B g : Nat} (h : Below B w w') (hg : B ≤ g) (n : Nd) : Below B w (put4 w' g n) :=
  (((h.setCell (p := ⟨g, 0, none⟩) hg _).setCell (p := ⟨g, 1, none⟩) hg _).setCell (p := ⟨g, 2, none⟩) hg _).setCell (p := ⟨g, 3, none⟩) hg _
theorem xn_new (w : World) (n : Nd) : XN (w.alloc (.cells #[.string n.op, .int .i64 n.a, .int .i64 n.b, .int .i64 n.v] 40)) w.heap.size n := heap_alloc_new w _
/-- A function whose result is a node in a cell. -/
theorem node_ret {fn : Func} {Q : Ending → World → Prop} {tmps : Array Value} {w : World} {g : Nat} {n : Nd} {s : Tmp} (hr : fn.results = #[.cell s 40]) (hs : tmps.getD s undef = .pointer (some ⟨g, 0, none⟩))
    (h : XN w g n) (hq : Q (.returned (.agg #[.string n.op, .int .i64 n.a, .int .i64 n.b, .int .i64 n.v])) w) : bodyPost Try.prog fn Q .ret ⟨tmps, []⟩ w := by
  obtain ⟨q0, q1, q2, q3⟩ := h.cells
  refine bodyPost_ret (v := .agg #[.string n.op, .int .i64 n.a, .int .i64 n.b, .int .i64 n.v]) ?_ rfl hq
  have hs' : tmps[s]?.getD undef = .pointer (some ⟨g, 0, none⟩) := by simpa using hs
  simp [results, hr, hs', go_sem, q0, q1, q2, q3]
end Go.Proofs.Ytmhdijklindipaa

/- Sets of registers, and the temporaries that code writes. -/
namespace Go.Proofs.Ytmhdijklindipaa
open Go.RowKit
set_option linter.unusedVariables false

def mkT (bs : List Bool) : List Int := ((List.range 6).filter (fun r => bs.getD r false)).map (fun n : Nat => (n : Int))
def mkTo (bs : List Bool) (k : Nat) : List Int := ((List.range k).filter (fun r => bs.getD r false)).map (fun n : Nat => (n : Int))
theorem mkTo_all (bs : List Bool) : mkTo bs 6 = mkT bs := rfl
theorem mkTo_yes {bs : List Bool} {k : Nat} (h : bs.getD k false = true) : mkTo bs (k + 1) = mkTo bs k ++ [(k : Int)] := by
  unfold mkTo; rw [List.range_succ, List.filter_append, List.map_append, List.filter_cons_of_pos (p := fun r => bs.getD r false) h]; rfl
theorem mkTo_no {bs : List Bool} {k : Nat} (h : bs.getD k false = false) : mkTo bs (k + 1) = mkTo bs k := by
  unfold mkTo; rw [List.range_succ, List.filter_append, List.map_append, List.filter_cons_of_neg (p := fun r => bs.getD r false) (by simp only [h]; decide)]; simp
theorem mkTo_len (bs : List Bool) (k : Nat) : (mkTo bs k).length ≤ k := by
  unfold mkTo; rw [List.length_map]; exact Nat.le_trans (List.length_filter_le _ _) (by simp)
def stT (bs : List Bool) (d : Int) : List Bool := bs.set d.toNat (decide (2 ≤ d))
def foT (cs : List In) : List Bool := cs.foldl (fun b x => stT b x.d) (List.replicate 6 false)
def tmR (cs : List In) : Int := if okCode cs = true then ((mkT (foT cs)).length : Int) else 0
def IsT (bs : List Bool) : Prop := ∃ b2 b3 b4 b5, bs = [false, false, b2, b3, b4, b5]
theorem step_all : ∀ (b2 b3 b4 b5 : Bool) (d : Fin 6), mkT (stT [false, false, b2, b3, b4, b5] (d.val : Int)) = (if 1 < d.val then put (mkT [false, false, b2, b3, b4, b5]) (d.val : Int) else mkT [false, false, b2, b3, b4, b5]) ∧ ((stT [false, false, b2, b3, b4, b5] (d.val : Int)).getD 0 false = false ∧ (stT [false, false, b2, b3, b4, b5] (d.val : Int)).getD 1 false = false) := by decide +kernel
theorem isT_of {bs : List Bool} (hl : bs.length = 6) (h0 : bs.getD 0 false = false) (h1 : bs.getD 1 false = false) : IsT bs := by
  match bs, hl with
  | [a, b, c, d, e, f], _ =>
    simp at h0 h1
    subst h0; subst h1
    exact ⟨c, d, e, f, rfl⟩
theorem step_T {bs : List Bool} (h : IsT bs) {d : Int} (h0 : 0 ≤ d) (h5 : d ≤ 5) : mkT (stT bs d) = (if 1 < d then put (mkT bs) d else mkT bs) ∧ IsT (stT bs d) := by
  obtain ⟨b2, b3, b4, b5, rfl⟩ := h
  obtain ⟨k, rfl⟩ := Int.eq_ofNat_of_zero_le h0
  have hk : k < 6 := by omega
  have := step_all b2 b3 b4 b5 ⟨k, hk⟩
  refine ⟨?_, isT_of (by simp [stT]) this.2.1 this.2.2⟩
  have e := this.1
  simp only at e
  rw [e]
  by_cases h1 : 1 < k
  · rw [if_pos h1, if_pos (by omega)]
  · rw [if_neg h1, if_neg (by omega)]
theorem foT_snoc {cs : List In} {k : Nat} (h : k < cs.length) : foT (cs.take (k + 1)) = stT (foT (cs.take k)) cs[k].d := by
  unfold foT; rw [List.take_succ_eq_append_getElem h, List.foldl_append]; rfl
theorem foT_is {cs : List In} (hc : ∀ x ∈ cs, goodIn x = true) (k : Nat) (hk : k ≤ cs.length) : IsT (foT (cs.take k)) := by
  induction k with
  | zero => exact ⟨false, false, false, false, rfl⟩
  | succ k ih =>
    have hl : k < cs.length := hk
    rw [foT_snoc hl]
    have hd := (good_parts (hc _ (List.getElem_mem hl))).1
    exact (step_T (ih (by omega)) hd.1 hd.2).2
theorem IsT.len {bs : List Bool} (h : IsT bs) : bs.length = 6 := by obtain ⟨_, _, _, _, rfl⟩ := h; rfl

/-- A set of registers in a box. -/
def BT (w : World) (g : Nat) (bs : List Bool) : Prop := w.heap[g]? = some (.cells (boolCells bs) 143 (0, 0))
theorem BT.lt {w : World} {g : Nat} {bs : List Bool} (h : BT w g bs) : g < w.heap.size := by
  rcases Nat.lt_or_ge g w.heap.size with hlt | hge
  · exact hlt
  · unfold BT at h; rw [Array.getElem?_eq_none hge] at h; cases h
theorem BT.cell {w : World} {g : Nat} {bs : List Bool} (h : BT w g bs) (i : Nat) (hi : i < bs.length) : w.cell? ⟨g, i, none⟩ = some (.bool (bs.getD i false)) := by
  rw [cell_of_row w g i _ 143 (0, 0) h, List.getD_eq_getElem?_getD, List.getElem?_eq_getElem hi]; simp [boolCells, hi]
theorem BT.frozen {w : World} {g : Nat} {bs : List Bool} (h : BT w g bs) (i : Nat) : w.frozen? ⟨g, i, none⟩ = false := by
  unfold BT at h; simp [World.frozen?, h]
theorem BT.set {w : World} {g : Nat} {bs : List Bool} (h : BT w g bs) (i : Nat) (x : Bool) : BT (w.setCell ⟨g, i, none⟩ (.bool x)) g (bs.set i x) := by
  unfold BT at h ⊢
  simp [World.setCell, Array.getElem?_modify, h, boolCells, List.map_set]
theorem BT.next {w w' : World} {B g : Nat} {bs : List Bool} (h : BT w g bs) (hb : Below B w w') (hB : g < B) : BT w' g bs := (hb.block g hB).trans h
end Go.Proofs.Ytmhdijklindipaa

/- Registers alive: plain. -/
namespace Go.Proofs.Ytmhdijklindipaa
open Go.RowKit
set_option linter.unusedVariables false

/-- What is alive before an instruction: bits, and lists. -/
def bkTo (x : In) (bs : List Bool) (k : Nat) : List Bool := ((readsL x).take k).foldl (fun c r => c.set r.toNat true) (bs.set x.d.toNat false)
def bkB (bs : List Bool) (x : In) : List Bool := bkTo x bs (readsL x).length
theorem bkTo_zero (x : In) (bs : List Bool) : bkTo x bs 0 = bs.set x.d.toNat false := rfl
theorem bkTo_succ {x : In} (bs : List Bool) {k : Nat} (h : k < (readsL x).length) : bkTo x bs (k + 1) = (bkTo x bs k).set (readsL x)[k].toNat true := by
  unfold bkTo; rw [List.take_succ_eq_append_getElem h, List.foldl_append]; rfl
theorem bkTo_len (x : In) (bs : List Bool) (k : Nat) : (bkTo x bs k).length = bs.length := by
  unfold bkTo
  generalize (readsL x).take k = l
  have : ∀ (l : List Int) (c : List Bool), (l.foldl (fun c r => c.set r.toNat true) c).length = c.length := by
    intro l
    induction l with
    | nil => intro c; rfl
    | cons r l ih => intro c; rw [List.foldl_cons, ih, List.length_set]
  rw [this, List.length_set]
def lvTo (x : In) (L : List Int) (k : Nat) : List Int := (L.take k).foldl (fun o r => if r = x.d then o else put o r) (readsL x)
def lvB (x : In) (L : List Int) : List Int := lvTo x L L.length
theorem lvTo_zero (x : In) (L : List Int) : lvTo x L 0 = readsL x := rfl
theorem lvTo_same {x : In} {L : List Int} {k : Nat} (h : k < L.length) (e : L[k] = x.d) : lvTo x L (k + 1) = lvTo x L k := by
  unfold lvTo; rw [List.take_succ_eq_append_getElem h, List.foldl_append, List.foldl_cons, List.foldl_nil, if_pos e]
theorem lvTo_put {x : In} {L : List Int} {k : Nat} (h : k < L.length) (e : ¬ L[k] = x.d) : lvTo x L (k + 1) = put (lvTo x L k) L[k] := by
  unfold lvTo; rw [List.take_succ_eq_append_getElem h, List.foldl_append, List.foldl_cons, List.foldl_nil, if_neg e]
theorem lvTo_len (x : In) (L : List Int) : ∀ k, (lvTo x L k).length ≤ 2 + k
  | 0 => by rw [lvTo_zero]; exact readsL_len x
  | k + 1 => by
    have ih := lvTo_len x L k
    by_cases h : k < L.length
    · by_cases e : L[k] = x.d
      · rw [lvTo_same h e]; omega
      · rw [lvTo_put h e]; have := put_len (lvTo x L k) L[k]; omega
    · have : lvTo x L (k + 1) = lvTo x L k := by unfold lvTo; rw [List.take_of_length_le (by omega), List.take_of_length_le (by omega)]
      rw [this]; omega
def In6 (r : Int) : Prop := 0 ≤ r ∧ r ≤ 5
theorem put_all : ∀ (b0 b1 b2 b3 b4 b5 : Bool) (d : Fin 6), put (mkT [b0, b1, b2, b3, b4, b5]) (d.val : Int) = mkT ([b0, b1, b2, b3, b4, b5].set d.val true) := by decide +kernel
theorem put_mkT {cs : List Bool} (hl : cs.length = 6) {r : Int} (h : In6 r) : put (mkT cs) r = mkT (cs.set r.toNat true) := by
  obtain ⟨n, rfl⟩ := Int.eq_ofNat_of_zero_le h.1
  have hn : n < 6 := by have := h.2; omega
  match cs, hl with
  | [a, b, c, d, e, f], _ => exact put_all a b c d e f ⟨n, hn⟩
theorem mem_mkT {bs : List Bool} {i : Nat} (hi : i < 6) : (i : Int) ∈ mkT bs ↔ bs.getD i false = true := by
  unfold mkT
  rw [List.mem_map]
  constructor
  · rintro ⟨n, hn, e⟩
    obtain rfl : n = i := by omega
    exact (List.mem_filter.1 hn).2
  · intro h; exact ⟨i, List.mem_filter.2 ⟨List.mem_range.2 hi, h⟩, rfl⟩
theorem mkT_in {bs : List Bool} : ∀ r ∈ mkT bs, In6 r := by
  intro r hr
  unfold mkT at hr
  obtain ⟨n, hn, rfl⟩ := List.mem_map.1 hr
  have := List.mem_range.1 (List.mem_filter.1 hn).1
  unfold In6; omega
def setsB (c : List Bool) (l : List Int) : List Bool := l.foldl (fun c r => c.set r.toNat true) c
theorem setsB_len : ∀ (l : List Int) (c : List Bool), (setsB c l).length = c.length
  | [], c => rfl
  | r :: l, c => by unfold setsB; rw [List.foldl_cons]; have := setsB_len l (c.set r.toNat true); unfold setsB at this; rw [this, List.length_set]
theorem getDB_set {c : List Bool} (r i : Nat) (v : Bool) (hr : r < c.length) : (c.set r v).getD i false = if r = i then v else c.getD i false := by
  rw [List.getD_eq_getElem?_getD, List.getD_eq_getElem?_getD, List.getElem?_set]
  by_cases e : r = i
  · rw [if_pos e, if_pos e, if_pos (by omega)]; rfl
  · rw [if_neg e, if_neg e]
theorem setsB_get : ∀ (l : List Int) (c : List Bool), (∀ r ∈ l, In6 r) → c.length = 6 → ∀ i, i < 6 → ((setsB c l).getD i false = true ↔ (c.getD i false = true ∨ (i : Int) ∈ l))
  | [], c, _, _, i, _ => by simp [setsB]
  | r :: l, c, h, hl, i, hi => by
    have hr := h r (by simp)
    have := setsB_get l (c.set r.toNat true) (fun q hq => h q (by simp [hq])) (by rw [List.length_set]; exact hl) i hi
    unfold setsB at this ⊢
    rw [List.foldl_cons, this, getDB_set _ _ _ (by unfold In6 at hr; omega)]
    by_cases e : r.toNat = i
    · rw [if_pos e]
      have : (i : Int) = r := by unfold In6 at hr; omega
      simp [this]
    · rw [if_neg e]
      have : ¬ (i : Int) = r := by omega
      simp [this]
theorem foldPut : ∀ (l : List Int) (c : List Bool) (d : Int), (∀ r ∈ l, In6 r) → c.length = 6 → l.foldl (fun o r => if r = d then o else put o r) (mkT c) = mkT (setsB c (l.filter (fun r => !decide (r = d))))
  | [], c, d, _, _ => rfl
  | r :: l, c, d, h, hl => by
    rw [List.foldl_cons, List.filter_cons]
    by_cases e : r = d
    · rw [if_pos e, if_neg (by simp [e])]
      exact foldPut l c d (fun q hq => h q (by simp [hq])) hl
    · rw [if_neg e, if_pos (by simp [e]), put_mkT hl (h r (by simp))]
      exact foldPut l (c.set r.toNat true) d (fun q hq => h q (by simp [hq])) (by rw [List.length_set]; exact hl)
theorem boolExt {a b : List Bool} (ha : a.length = 6) (hb : b.length = 6) (h : ∀ i, i < 6 → (a.getD i false = true ↔ b.getD i false = true)) : a = b := by
  refine List.ext_getElem (by omega) fun i h1 h2 => ?_
  have := h i (by omega)
  rw [List.getD_eq_getElem?_getD, List.getD_eq_getElem?_getD, List.getElem?_eq_getElem h1, List.getElem?_eq_getElem h2] at this
  simp only [Option.getD_some] at this
  exact Bool.eq_iff_iff.2 this
/-- What is read, as bits. -/
theorem reads_mkT {x : In} (hx : goodIn x = true) : ∃ c : List Bool, c.length = 6 ∧ readsL x = mkT c := by
  have h := good_parts hx
  have z : ([] : List Int) = mkT [false, false, false, false, false, false] := by decide
  cases ha : (fm x.op).a <;> cases hb : (fm x.op).b
  · rw [reads_ff x (a := true) (b := true) ha hb, z]; exact ⟨_, rfl, rfl⟩
  · rw [reads_ft x ha hb, z, put_mkT rfl ⟨h.2.2.1.1, h.2.2.1.2⟩]; exact ⟨_, by simp, rfl⟩
  · rw [reads_tf x ha hb, z, put_mkT rfl ⟨h.2.1.1, h.2.1.2⟩]; exact ⟨_, by simp, rfl⟩
  · rw [reads_tt x ha hb, z, put_mkT rfl ⟨h.2.1.1, h.2.1.2⟩, put_mkT (by simp) ⟨h.2.2.1.1, h.2.2.1.2⟩]; exact ⟨_, by simp, rfl⟩
theorem reads_in {x : In} (hx : goodIn x = true) : ∀ r ∈ readsL x, In6 r := by
  obtain ⟨c, _, e⟩ := reads_mkT hx
  rw [e]; exact mkT_in
theorem lvB_bits {x : In} (hx : goodIn x = true) {bs : List Bool} (hl : bs.length = 6) : lvB x (mkT bs) = mkT (bkB bs x) := by
  obtain ⟨c, hc, e⟩ := reads_mkT hx
  have hd : In6 x.d := (good_parts hx).1
  unfold lvB lvTo bkB bkTo
  rw [List.take_length, List.take_length, e, foldPut _ _ _ mkT_in hc]
  congr 1
  have hset : (bs.set x.d.toNat false).length = 6 := by rw [List.length_set]; exact hl
  refine boolExt (by rw [setsB_len]; exact hc) (by have := setsB_len (mkT c) (bs.set x.d.toNat false); unfold setsB at this; rw [this]; exact hset) fun i hi => ?_
  have h1 := setsB_get ((mkT bs).filter (fun r => !decide (r = x.d))) c (fun r hr => mkT_in r (List.mem_filter.1 hr).1) hc i hi
  have h2 := setsB_get (mkT c) (bs.set x.d.toNat false) mkT_in hset i hi
  unfold setsB at h2
  rw [h1, h2, mem_mkT hi, List.mem_filter, mem_mkT hi, getDB_set _ _ _ (by unfold In6 at hd; omega)]
  have : (x.d.toNat = i) ↔ ((i : Int) = x.d) := by unfold In6 at hd; omega
  by_cases e2 : x.d.toNat = i
  · rw [if_pos e2]; simp [this.1 e2]
  · rw [if_neg e2]
    have : ¬ (i : Int) = x.d := fun h => e2 (this.2 h)
    simp [this, or_comm]
theorem bkB_len (bs : List Bool) (x : In) : (bkB bs x).length = bs.length := bkTo_len _ _ _
end Go.Proofs.Ytmhdijklindipaa

/- The program's TemporariesOf. -/
namespace Go.Proofs.Ytmhdijklindipaa
open Go.RowKit
set_option linter.unusedVariables false
set_option maxRecDepth 100000

set_option maxHeartbeats 4000000 in
theorem setList_any (g : Nat) (bs : List Bool) (w : World) (hl : bs.length = 6) (hg : BT w g bs) :
    Calls Try.prog 181 #[.pointer (some ⟨g, 0, none⟩)] w (OwnIs w (mkT bs)) := by
  obtain ⟨i0, hi, hz0, hz1, hz2⟩ := info_parts Try.infoInt
  have hI := Lib.hid hi
  have hZ0 := Lib.hid hz0
  have hZ1 := Lib.hid hz1
  have hZ2 := Lib.hid hz2
  clear hi hz0 hz1 hz2
  have hG := Lib.hid hg
  have hgl := hg.lt
  have hL := Lib.hid hl
  clear hg hl
  have b0 := Lib.hid (Below.refl w.heap.size w)
  go_enter Try.func181, Try.ntmps181
  go_wp2
  go_loopw [3, 7] (fun v i wr => ∃ k : Nat, k ≤ 6 ∧ i = .int .i64 k ∧ OW wr w.heap.size wr.heap.size v (mkTo bs k) ∧ Below w.heap.size w wr) (fun _ i _ => 6 - (intOf i).toNat)
  case atStart => exact ⟨0, Nat.zero_le _, rfl, OW.nil _ _ _, b0.out⟩
  case round =>
    obtain ⟨k, hk, rfl, how, hbel⟩ := hrel
    have hO := Lib.hid how
    have hBL := Lib.hid hbel
    obtain ⟨A2, c2, rfl, _⟩ := how.form
    have hTl := Lib.hid (mkTo_len bs k)
    have hgw : g < wr.heap.size := Nat.lt_of_lt_of_le hgl hbel.size
    have hc := (hG.out.next hbel hgl).cell k
    clear how hbel
    by_cases hlt : k < 6
    · have c1 := hc (by rw [hL.out]; exact hlt)
      clear hc
      have hk6 : (k : Int) < 6 := by omega
      have hk0 : (0 : Int) ≤ (k : Int) := by omega
      cases hb : bs.getD k false
      · rw [hb] at c1
        have hS := Lib.hid (mkTo_no hb)
        clear hb
        generalize mkTo bs k = ts at *
        have hd := Lib.hid ((Below.refl wr.heap.size wr).drew)
        have hBd := Lib.hid hBL.out.drew
        go_wp2
        go_region
        all_goals
          go_wp2
          go_roundw
          case rel => exact ⟨k + 1, by omega, by go_num, by rw [hS.out]; exact hO.out.below hd.out (Nat.le_refl _), hBd.out⟩
          case measure => simp [intOf]; omega
      · rw [hb] at c1
        have hS := Lib.hid (mkTo_yes hb)
        clear hb
        have hOd := Lib.hid (show OW wr.drew w.heap.size wr.drew.heap.size (.slice A2 (mkTo bs k).length c2) (mkTo bs k) from hO.out.below ((Below.refl wr.heap.size wr).drew) (Nat.le_refl _))
        generalize mkTo bs k = ts at *
        have hBd := Lib.hid hBL.out.drew
        have hlen : ts.length ≤ 6 := by have := hTl.out; omega
        have ho2 := Lib.hid (hOd.out.1.alloc (.cells #[.int .i64 (k : Int)] 3))
        have hb3 := Lib.hid (hBd.out.alloc hBd.out.size (.cells #[.int .i64 (k : Int)] 3))
        have hlo := Lib.hid hOd.out.lo
        go_wp2
        go_region
        all_goals
          go_wp2_with (at_builtin; go_loud (refine wpList_append_own _ rfl _ _ 27 rfl w.heap.size 3 i0 (.int .i64 0) 1 8 Try.underlying27 hI.out hZ0.out hZ1.out hZ2.out rfl (by decide) _ _ _ rfl ho2.out ⟨wr.drew.heap.size, 0, none⟩ 1 1 [.int .i64 (k : Int)] rfl rfl (new1 rfl) (one1 _) (by unfold maxLen; omega) (by omega) (by have := hBL.out.size; simp; omega) ?_); intro v' w4 hown4 hgr4 _)
          have R1 := Lib.hid (OW.push (by simpa using hown4) : OW w4 w.heap.size w4.heap.size v' (ts ++ [(k : Int)]))
          have R2 := Lib.hid (hb3.out.grown hgr4 hb3.out.size (fun k hk => (hlo.out k hk).1))
          clear hown4 hgr4
          go_wp2
          go_roundw
          case rel => exact ⟨k + 1, by omega, by go_num, by rw [hS.out]; exact R1.out, R2.out⟩
          case measure => simp [intOf]; omega
    · obtain rfl : k = 6 := by omega
      rw [mkTo_all] at hO
      go_wp2
      go_ret
      exact ⟨_, _, rfl, hO.out, hBL.out⟩

end Go.Proofs.Ytmhdijklindipaa

/- (*registerSet).goBack of the program. -/
namespace Go.Proofs.Ytmhdijklindipaa
open Go.RowKit
set_option linter.unusedVariables false
set_option maxRecDepth 100000

theorem BT.chg {w w' : World} {g lo hi : Nat} {bs : List Bool} (h : BT w g bs) (hc : Chg lo hi w w') (hn : g < lo ∨ hi ≤ g) : BT w' g bs := (hc.block g h.lt hn).trans h

set_option maxHeartbeats 4000000 in
theorem goBack_any (g : Nat) (bs : List Bool) (x : In) (w : World) (hl : bs.length = 6) (hx : goodIn x = true) (hg : BT w g bs) :
    Calls Try.prog 176 #[.pointer (some ⟨g, 0, none⟩), .agg #[.string x.op, .int .i64 x.d, .int .i64 x.a, .int .i64 x.b, .int .i64 x.m]] w fun e w' => e = .returned (.tuple #[]) ∧ BT w' g (bkB bs x) ∧ Chg g (g + 1) w w' := by
  have hin := Lib.hid (reads_in hx)
  have hxd := (good_parts hx).1
  have hZ : Hid (bkB bs x = bkTo x bs (readsL x).length) := rfl
  have h0 := Lib.hid (bkTo_zero x bs)
  have hS := Lib.hid fun (k : Nat) (h : k < (readsL x).length) => bkTo_succ (x := x) bs h
  have hLn := Lib.hid fun (k : Nat) => (bkTo_len x bs k).trans hl
  have hr2 := Lib.hid (readsL_len x)
  have hRd := Lib.hid fun (W : World) => readsOf_any x W
  obtain ⟨op, d, a, b, m⟩ := x
  dsimp only at hxd h0 hRd ⊢
  generalize readsL ⟨op, d, a, b, m⟩ = R at *
  generalize bkB bs ⟨op, d, a, b, m⟩ = Z at *
  generalize bkTo ⟨op, d, a, b, m⟩ bs = F at *
  obtain ⟨n, rfl⟩ := Int.eq_ofNat_of_zero_le hxd.1
  rw [Int.toNat_natCast] at h0
  have hn6 : (n : Int) < 6 := by omega
  have hnn : n < 6 := by omega
  have hn0 : (0 : Int) ≤ (n : Int) := by omega
  have hgl := hg.lt
  have ba := (Below.refl w.heap.size w).alloc (Nat.le_refl _) (.cells #[.string op, .int .i64 (n : Int), .int .i64 a, .int .i64 b, .int .i64 m] 56)
  have hb1 := hg.next ba hgl
  have c1 := hb1.cell n (by rw [hl]; exact hnn)
  have f1 := hb1.frozen n
  have nb : CB 56 (w.alloc (.cells #[.string op, .int .i64 (n : Int), .int .i64 a, .int .i64 b, .int .i64 m] 56)) w.heap.size [.string op, .int .i64 (n : Int), .int .i64 a, .int .i64 b, .int .i64 m] := heap_alloc_new w _
  have n1 := nb.cell 1
  simp only [List.getElem?_cons_zero, List.getElem?_cons_succ] at n1
  have hTs := hg.set n false
  have hTf := Lib.hid (hTs.next ((Below.refl (w.setCell ⟨g, n, none⟩ (.bool false)).heap.size _).alloc (Nat.le_refl _) (.cells #[.string op, .int .i64 (n : Int), .int .i64 a, .int .i64 b, .int .i64 m] 56)) hTs.lt)
  have hCf := Lib.hid (((Chg.refl g (g + 1) w).setCell (p := ⟨g, n, none⟩) ⟨Nat.le_refl _, Nat.lt_succ_self _⟩ (.bool false)).alloc (.cells #[.string op, .int .i64 (n : Int), .int .i64 a, .int .i64 b, .int .i64 m] 56))
  generalize bs.getD n false = old at *
  clear nb ba hg hb1 hTs hxd
  go_enter Try.func176, Try.ntmps176
  go_wp2_with (fail)
  go_region
  all_goals
    go_wp2_with (fail)
    have hT1 := Lib.hid (hTf.out.next ((Below.refl _ _).drew) hTf.out.lt)
    have hC1 := Lib.hid hCf.out.drew
    clear hTf hCf c1 f1 n1
    generalize ((w.setCell ⟨g, n, none⟩ (.bool false)).alloc (.cells #[.string op, .int .i64 (n : Int), .int .i64 a, .int .i64 b, .int .i64 m] 56)).drew = W1 at *
    refine (hRd.out _).mono ?_
    rintro e w2 ⟨A2, c2, rfl, ho, hb2⟩
    have hT2 := Lib.hid (hT1.out.next hb2 hT1.out.lt)
    have hC2 := Lib.hid (hC1.out.trans (Chg.ofBelow hb2))
    have hg1 := hT1.out.lt
    have hP := Lib.hid fun (W : World) (hW : Chg g (g + 1) w2 W) => IS.chg ho.rs hW (Nat.le_refl _) (by omega)
    clear hT1 hC1 ho hb2 hg1
    go_wp2_with (fail)
    go_loopw [14] (fun q wr => ∃ k : Nat, k ≤ R.length ∧ q = .int .i64 k ∧ BT wr g (F k) ∧ Chg g (g + 1) w2 wr) (fun q _ => R.length - (intOf q).toNat)
    case atStart => exact ⟨0, Nat.zero_le _, rfl, by rw [h0.out]; exact hT2.out, Chg.refl _ _ _⟩
    case round =>
      obtain ⟨k, hk, rfl, hbt, hch⟩ := hrel
      have hTJ := Lib.hid hbt
      have hCJ := Lib.hid hch
      clear hbt
      by_cases hlt : k < R.length
      · obtain ⟨pb, po, rfl, ⟨_, hpb⟩, hcc⟩ := (hP.out _ hch) (by omega)
        have y1 := hcc k hlt
        have hpt := hin.out R[k] (List.getElem_mem _)
        have hSk := Lib.hid (hS.out k hlt)
        have hLk := Lib.hid (hLn.out k)
        clear hcc hch
        generalize R[k] = pp at *
        obtain ⟨hp0, hp5⟩ := hpt
        obtain ⟨pn, rfl⟩ := Int.eq_ofNat_of_zero_le hp0
        have hpm : (pn : Int) < 6 := by omega
        have hpn : pn < 6 := by omega
        have hpn0 : (0 : Int) ≤ (pn : Int) := by omega
        rw [Int.toNat_natCast] at hSk
        generalize hnx : F (k + 1) = nx at *
        have hnx2 := Lib.hid hnx
        clear hnx
        generalize F k = cj at *
        have y2 := hTJ.out.cell pn (by rw [hLk.out]; exact hpn)
        have y3 := hTJ.out.frozen pn
        generalize cj.getD pn false = old2 at *
        have hIn := Lib.hid (hTJ.out.set pn true)
        have hCn := Lib.hid (hCJ.out.setCell (p := ⟨g, pn, none⟩) ⟨Nat.le_refl _, Nat.lt_succ_self _⟩ (.bool true))
        have hr3 : R.length ≤ 2 := hr2.out
        go_wp2
        go_roundw
        case rel => exact ⟨k + 1, by omega, by go_num, by rw [hnx2.out, hSk.out]; exact hIn.out, hCn.out⟩
        case measure => simp [intOf]; omega
      · obtain rfl : k = R.length := by omega
        clear hch
        go_wp2
        go_end0
        exact ⟨rfl, by rw [hZ.out]; exact hTJ.out, hC2.out.trans hCJ.out⟩
end Go.Proofs.Ytmhdijklindipaa
