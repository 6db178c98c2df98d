/- Texts of this proof, one behind the other: WB, GJ, GS, AE, AF, FH. -/
import Derived.Test.YtgcbfiamhpfkhaaZ9
import Derived.Test.YtgcbfiamhpfkhaaD2
import Derived.Test.YtgcbfiamhpfkhaaLI
import Derived.WalkKit
import Derived.WalkSpells
import Derived.WalkLawsBesides
import Derived.Lib.Hide
import Derived.Test.YtgcbfiamhpfkhaaZ7
/- Blocks of bools, boxes of a node; a node moved. -/
namespace Go.Proofs.Ytgcbfiamhpfkhaa
open Go.RowKit
set_option linter.unusedVariables false
set_option maxRecDepth 100000

def boolCells (bs : List Bool) : Array Value := (bs.map Value.bool).toArray
/-- A block of bools known whole. -/
def BB (w : World) (g : Nat) (bs : List Bool) : Prop := w.heap[g]? = some (.cells (boolCells bs) 4 (0, 0))
theorem BB.lt {w : World} {g : Nat} {bs : List Bool} (h : BB w g bs) : g < w.heap.size := by
  rcases Nat.lt_or_ge g w.heap.size with hlt | hge
  · exact hlt
  · unfold BB at h; rw [Array.getElem?_eq_none hge] at h; cases h
theorem BB.cell {w : World} {g : Nat} {bs : List Bool} (h : BB w g bs) (i : Nat) (hi : i < bs.length) : w.cell? ⟨g, i, none⟩ = some (.bool (bs.getD i false)) := by
  rw [cell_of_row w g i _ 4 (0, 0) h, List.getD_eq_getElem?_getD, List.getElem?_eq_getElem hi]; simp [boolCells, hi]
theorem BB.frozen {w : World} {g : Nat} {bs : List Bool} (h : BB w g bs) (i : Nat) : w.frozen? ⟨g, i, none⟩ = false := by
  unfold BB at h; simp [World.frozen?, h]
theorem BB.set {w : World} {g : Nat} {bs : List Bool} (h : BB w g bs) (i : Nat) (x : Bool) : BB (w.setCell ⟨g, i, none⟩ (.bool x)) g (bs.set i x) := by
  unfold BB at h ⊢
  simp [World.setCell, Array.getElem?_modify, h, boolCells, List.map_set]
theorem BB.next {w w' : World} {g : Nat} {bs : List Bool} (h : BB w g bs) (hb : Below w.heap.size w w') : BB w' g bs := (hb.block g h.lt).trans h
theorem BB.other {w : World} {g q : Nat} {bs : List Bool} (h : BB w g bs) (j : Nat) (x : Value) (hne : q ≠ g) : BB (w.setCell ⟨q, j, none⟩ x) g bs :=
  (Below.heap_setCell w ⟨q, j, none⟩ x g (by simpa using fun e => hne e.symm)).trans h
theorem Try.infoBool : (Try.prog.info? 4).map (fun i => (i.zero, i.size, i.bytes)) = some (some (.bool false), 1, 1) := by kernel_rfl
theorem run_make_bools (n : Nat) (hn : n ≤ 1048576) (W : World) : (Instr.makeSlice 168 (.int .i64 (n : Int)) (.int .i64 (n : Int))).run Try.prog W = .ok (.slice (some ⟨W.heap.size, 0, none⟩) n n) (W.alloc (.cells (boolCells (List.replicate n false)) 4)) := by
  obtain ⟨i0, hi, hz0, hz1, hz2⟩ := info_parts Try.infoBool
  have h := run_make (P := Try.prog) W 168 4 i0 _ Try.underlying168 hi hz0 .i64 .i64 n n (by omega) (by omega) (by rw [hz2]; omega) (by omega)
  rw [h]
  simp only [Int.toNat_natCast, hz1, Nat.mul_one]
  refine congrArg (fun c => Result.ok (Value.slice (some ⟨W.heap.size, 0, none⟩) n n) (W.alloc (.cells c 4))) ?_
  apply Array.ext'
  rw [boolCells, List.map_replicate]
  exact toList_madeCells_one _ _

/-- One node in a box. -/
def XN (w : World) (g : Nat) (n : Nd) : Prop := w.heap[g]? = some (.cells #[.string n.op, .int .i64 n.a, .int .i64 n.b, .int .i64 n.v] 65 (0, 0))
theorem XN.lt {w : World} {g : Nat} {n : Nd} (h : XN w g n) : g < w.heap.size := by
  rcases Nat.lt_or_ge g w.heap.size with hlt | hge
  · exact hlt
  · unfold XN at h; rw [Array.getElem?_eq_none hge] at h; cases h
theorem XN.next {w w' : World} {g : Nat} {n : Nd} (h : XN w g n) (hb : Below w.heap.size w w') : XN w' g n := (hb.block g h.lt).trans h
theorem XN.cells {w : World} {g : Nat} {n : Nd} (h : XN w g n) : w.cell? ⟨g, 0, none⟩ = some (.string n.op) ∧ w.cell? ⟨g, 1, none⟩ = some (.int .i64 n.a) ∧ w.cell? ⟨g, 2, none⟩ = some (.int .i64 n.b) ∧ w.cell? ⟨g, 3, none⟩ = some (.int .i64 n.v) := by
  have c := fun i => cell_of_row w g i _ 65 (0, 0) h
  exact ⟨c 0, c 1, c 2, c 3⟩
theorem XN.fz {w : World} {g : Nat} {n : Nd} (h : XN w g n) (i : Nat) : w.frozen? ⟨g, i, none⟩ = false := by
  unfold XN at h; simp [World.frozen?, h]
theorem XN.setA {w : World} {g : Nat} {n : Nd} (h : XN w g n) (x : Int) : XN (w.setCell ⟨g, 1, none⟩ (.int .i64 x)) g ⟨n.op, x, n.b, n.v⟩ := by
  unfold XN at h ⊢
  simp [World.setCell, Array.getElem?_modify, h]
theorem XN.setB {w : World} {g : Nat} {n : Nd} (h : XN w g n) (x : Int) : XN (w.setCell ⟨g, 2, none⟩ (.int .i64 x)) g ⟨n.op, n.a, x, n.v⟩ := by
  unfold XN at h ⊢
  simp [World.setCell, Array.getElem?_modify, h]
theorem XN.other {w : World} {g q : Nat} {n : Nd} (h : XN w g n) (j : Nat) (x : Value) (hne : q ≠ g) : XN (w.setCell ⟨q, j, none⟩ x) g n :=
  (Below.heap_setCell w ⟨q, j, none⟩ x g (by simpa using fun e => hne e.symm)).trans h
def put4 (w : World) (g : Nat) (n : Nd) : World := (((w.setCell ⟨g, 0, none⟩ (.string n.op)).setCell ⟨g, 1, none⟩ (.int .i64 n.a)).setCell ⟨g, 2, none⟩ (.int .i64 n.b)).setCell ⟨g, 3, none⟩ (.int .i64 n.v)
theorem XN.put4 {w : World} {g : Nat} {n : Nd} (h : XN w g n) (m : Nd) : XN (put4 w g m) g m := by
  unfold XN Go.Proofs.Ytgcbfiamhpfkhaa.put4 at *
  simp [World.setCell, Array.getElem?_modify, h]
theorem below_put4 {w w' : World} {B g : Nat} (h : Below B w w') (hg : B ≤ g) (n : Nd) : Below B w (put4 w' g n) :=
  (((h.setCell (p := ⟨g, 0, none⟩) hg _).setCell (p := ⟨g, 1, none⟩) hg _).setCell (p := ⟨g, 2, none⟩) hg _).setCell (p := ⟨g, 3, none⟩) hg _
theorem xn_new (w : World) (n : Nd) : XN (w.alloc (.cells #[.string n.op, .int .i64 n.a, .int .i64 n.b, .int .i64 n.v] 65)) w.heap.size n := heap_alloc_new w _
/-- A function whose result is a node in a cell. -/
theorem node_ret {fn : Func} {Q : Ending → World → Prop} {tmps : Array Value} {w : World} {g : Nat} {n : Nd} {s : Tmp} (hr : fn.results = #[.cell s 65]) (hs : tmps.getD s undef = .pointer (some ⟨g, 0, none⟩))
    (h : XN w g n) (hq : Q (.returned (.agg #[.string n.op, .int .i64 n.a, .int .i64 n.b, .int .i64 n.v])) w) : bodyPost Try.prog fn Q .ret ⟨tmps, []⟩ w := by
  obtain ⟨q0, q1, q2, q3⟩ := h.cells
  refine bodyPost_ret (v := .agg #[.string n.op, .int .i64 n.a, .int .i64 n.b, .int .i64 n.v]) ?_ rfl hq
  have hs' : tmps[s]?.getD undef = .pointer (some ⟨g, 0, none⟩) := by simpa using hs
  simp [results, hr, hs', go_sem, q0, q1, q2, q3]
end Go.Proofs.Ytgcbfiamhpfkhaa

/- The state of a cover laid, place by place: plain. -/
namespace Go.Proofs.Ytgcbfiamhpfkhaa
open Go.RowKit
set_option linter.unusedVariables false

theorem getDI_set {xs : List Int} (i j : Nat) (x : Int) (hi : i < xs.length) : (xs.set i x).getD j 0 = if i = j then x else xs.getD j 0 := by
  rw [List.getD_eq_getElem?_getD, List.getD_eq_getElem?_getD, List.getElem?_set]
  split
  · first | rfl | (rw [if_pos hi]; rfl)
  · rfl
theorem foldSet_get : ∀ (ps : List Int) (xs : List Int) (i : Nat), (∀ p ∈ ps, p.toNat < xs.length) → (ps.foldl (fun c p => c.set p.toNat (-2)) xs).getD i 0 = if (∃ p ∈ ps, p.toNat = i) then -2 else xs.getD i 0
  | [], xs, i, _ => by simp
  | p :: ps, xs, i, h => by
    rw [List.foldl_cons, foldSet_get ps (xs.set p.toNat (-2)) i (fun q hq => by rw [List.length_set]; exact h q (by simp [hq])), getDI_set _ _ _ (h p (by simp))]
    by_cases h1 : ∃ q ∈ ps, q.toNat = i
    · rw [if_pos h1, if_pos (by obtain ⟨q, hq, e⟩ := h1; exact ⟨q, by simp [hq], e⟩)]
    · rw [if_neg h1]
      by_cases h2 : p.toNat = i
      · rw [if_pos h2, if_pos ⟨p, by simp, h2⟩]
      · rw [if_neg h2, if_neg]
        rintro ⟨q, hq, e⟩
        rcases List.mem_cons.1 hq with rfl | hq
        · exact h2 e
        · exact h1 ⟨q, hq, e⟩
theorem layL_get {cs : List Int} {k : Nat} {x : Ti} (hk : k < cs.length) (hp : ∀ p ∈ x.ps, 0 ≤ p ∧ p < (k : Int)) (i : Nat) : (layL cs k x).getD i 0 = if (∃ p ∈ x.ps, p.toNat = i) then -2 else if k = i then x.num else cs.getD i 0 := by
  unfold layL layTo
  rw [List.take_length, foldSet_get _ _ _ (fun p h => by rw [List.length_set]; have := hp p h; omega), getDI_set _ _ _ hk]
theorem layL_ge {cs : List Int} {k : Nat} {x : Ti} (hk : k < cs.length) (hp : ∀ p ∈ x.ps, 0 ≤ p ∧ p < (k : Int)) {i : Nat} (h : k < i) : (layL cs k x).getD i 0 = cs.getD i 0 := by
  rw [layL_get hk hp, if_neg, if_neg (by omega)]
  rintro ⟨p, h1, e⟩
  have := hp p h1
  omega
theorem layL_at {cs : List Int} {k : Nat} {x : Ti} (hk : k < cs.length) (hp : ∀ p ∈ x.ps, 0 ≤ p ∧ p < (k : Int)) : (layL cs k x).getD k 0 = x.num := by
  rw [layL_get hk hp, if_neg, if_pos rfl]
  rintro ⟨p, h1, e⟩
  have := hp p h1
  omega
theorem layL_lt {cs : List Int} {k : Nat} {x : Ti} (hk : k < cs.length) (hp : ∀ p ∈ x.ps, 0 ≤ p ∧ p < (k : Int)) {i : Nat} (h : i < k) : (layL cs k x).getD i 0 = -2 ∨ (layL cs k x).getD i 0 = cs.getD i 0 := by
  rw [layL_get hk hp]
  split
  · exact .inl rfl
  · rw [if_neg (by omega)]; exact .inr rfl
/-- The tile of a place. -/
def tD (es : List Nd) (nums : List Int) (i : Nat) : Ti := (tOf es (i : Int) (nums.getD i 0)).getD noTi
structure CvInv (es : List Nd) (nums : List Int) (j : Nat) (cs : List Int) (out : List Ti) : Prop where
  lo : ∀ i, i < es.length - j → cs.getD i 0 = -1 ∨ cs.getD i 0 = -2
  hi : ∀ i, es.length - j ≤ i → i < es.length → cs.getD i 0 = -1 ∨ (cs.getD i 0 = nums.getD i 0 ∧ ∃ x, tOf es (i : Int) (nums.getD i 0) = some x)
  out : out.reverse = ((List.range' (es.length - j) j).filter (fun i => decide (0 ≤ cs.getD i 0))).map (tD es nums)
theorem cvSt_inv {es : List Nd} {nums : List Int} : ∀ {j : Nat} {cs : List Int} {out : List Ti}, j ≤ es.length → cvSt es nums j = some (cs, out) → CvInv es nums j cs out
  | 0, cs, out, hj, h => by
    simp only [cvSt, Option.some.injEq, Prod.mk.injEq] at h
    obtain ⟨rfl, rfl⟩ := h
    refine ⟨fun i hi => ?_, fun i h1 h2 => by omega, by simp⟩
    unfold opn
    rw [getDI_set _ _ _ (by simp; omega)]
    split
    · exact .inr rfl
    · left; rw [List.getD_eq_getElem?_getD, List.getElem?_replicate, if_pos (by omega)]; rfl
  | j + 1, cs, out, hj, h => by
    simp only [cvSt] at h
    rw [Option.bind_eq_some_iff] at h
    obtain ⟨⟨cs0, out0⟩, h0, h1⟩ := h
    have ih := cvSt_inv (by omega) h0
    have hl := (cvSt_len h0).1
    obtain ⟨k, hk⟩ : ∃ k, k = es.length - 1 - j := ⟨_, rfl⟩
    rw [← hk] at h1
    have hkn : k < cs0.length := by omega
    have e1 : es.length - (j + 1) = k := by omega
    have e2 : es.length - j = k + 1 := by omega
    have ih1 := ih.lo; have ih2 := ih.hi; have ih3 := ih.out
    rw [e2] at ih1 ih2 ih3
    unfold cvNext at h1
    split at h1
    · rename_i hc
      rw [Option.map_eq_some_iff] at h1
      obtain ⟨x, hx0, hx⟩ := h1
      injection hx with e3 e4
      subst e3; subst e4
      have hp := (tOf_ps hx0).1
      have hnum := tOf_num hx0
      have hb := tOf_bd hx0
      unfold TiB at hb
      have hD : tD es nums k = x := by unfold tD; rw [hx0]; rfl
      refine ⟨?_, ?_, ?_⟩
      · rw [e1]
        intro i hi
        rcases layL_lt hkn hp hi with e | e
        · exact .inr e
        · rw [e]; exact ih1 i (by omega)
      · rw [e1]
        intro i h1 h2
        rcases Nat.lt_or_ge k i with h | h
        · rw [layL_ge hkn hp h]; exact ih2 i (by omega) h2
        · obtain rfl : i = k := by omega
          rw [layL_at hkn hp]
          exact .inr ⟨hnum, x, hx0⟩
      · rw [e1, List.range'_succ, List.filter_cons, if_pos (by rw [layL_at hkn hp]; simp; omega), List.map_cons, hD, List.reverse_append, List.reverse_singleton, List.singleton_append, ih3]
        congr 2
        refine List.filter_congr fun i hi => ?_
        rw [layL_ge hkn hp (by have := (List.mem_range'_1.1 hi).1; omega)]
    · rename_i hc
      injection h1 with h1; injection h1 with e3 e4
      subst e3; subst e4
      have hm1 : cs0.getD k 0 = -1 := (ih1 k (by omega)).resolve_right hc
      refine ⟨?_, ?_, ?_⟩
      · rw [e1]; exact fun i hi => ih1 i (by omega)
      · rw [e1]
        intro i h1 h2
        rcases Nat.lt_or_ge k i with h | h
        · exact ih2 i (by omega) h2
        · obtain rfl : i = k := by omega
          exact .inl hm1
      · rw [e1, List.range'_succ, List.filter_cons, if_neg (by rw [hm1]; simp), ih3]
/-- The tiles of the places below k, in order. -/
def mst (es : List Nd) (nums : List Int) (k : Nat) : List Ti := ((List.range k).filter (fun i => decide (0 ≤ nums.getD i 0))).map (tD es nums)
theorem mst_zero (es : List Nd) (nums : List Int) : mst es nums 0 = [] := rfl
theorem mst_skip {es : List Nd} {nums : List Int} {k : Nat} (h : ¬ 0 ≤ nums.getD k 0) : mst es nums (k + 1) = mst es nums k := by
  unfold mst; rw [List.range_succ, List.filter_append, List.filter_cons, if_neg (by simpa using h)]; simp
theorem mst_take {es : List Nd} {nums : List Int} {k : Nat} (h : 0 ≤ nums.getD k 0) : mst es nums (k + 1) = mst es nums k ++ [tD es nums k] := by
  unfold mst; rw [List.range_succ, List.filter_append, List.filter_cons, if_pos (by simpa using h)]; simp
theorem mst_len (es : List Nd) (nums : List Int) (k : Nat) : (mst es nums k).length ≤ k := by
  unfold mst; rw [List.length_map]; exact Nat.le_trans (List.length_filter_le _ _) (by simp)
/-- The bits of the model. -/
def ndB (cs : List Int) : List Bool := cs.map (fun v => v != -1)
theorem ndB_len (cs : List Int) : (ndB cs).length = cs.length := by simp [ndB]
theorem ndB_get {cs : List Int} {i : Nat} (h : i < cs.length) : (ndB cs).getD i false = (cs.getD i 0 != -1) := by
  rw [List.getD_eq_getElem?_getD, List.getD_eq_getElem?_getD, List.getElem?_eq_getElem h, List.getElem?_eq_getElem (by rw [ndB_len]; exact h)]; simp [ndB]
theorem ndB_set (cs : List Int) (i : Nat) (x : Int) : ndB (cs.set i x) = (ndB cs).set i (x != -1) := by simp [ndB, List.map_set]
theorem ndB_opn {n : Nat} : ndB (opn n) = (List.replicate n false).set (n - 1) true := by
  unfold opn; rw [ndB_set]; simp [ndB]
theorem ndB_lay0 {cs : List Int} {k : Nat} {x : Int} (hk : k < cs.length) (h : cs.getD k 0 = -2) (hx : 0 ≤ x) : ndB (cs.set k x) = ndB cs := by
  rw [ndB_set, show (x != -1) = true by simp; omega]
  refine List.ext_getElem (by simp) fun i h1 h2 => ?_
  rw [List.getElem_set]
  split
  · rename_i e
    subst e
    have := ndB_get hk
    rw [h, List.getD_eq_getElem?_getD, List.getElem?_eq_getElem h2] at this
    exact this.symm
  · rfl
/-- A state is the numbers where the places left alone bear none. -/
theorem cv_eq {es : List Nd} {nums cs : List Int} {out : List Ti} (hn : nums.length = es.length) (h : cvSt es nums es.length = some (cs, out)) : cs = nums ↔ ∀ i, i < es.length → cs.getD i 0 = -1 → nums.getD i 0 = -1 := by
  have hI := (cvSt_inv (Nat.le_refl _) h).hi
  have hl := (cvSt_len h).1
  rw [Nat.sub_self] at hI
  constructor
  · rintro rfl i _ e; exact e
  · intro ha
    refine List.ext_getElem (by omega) fun i h1 h2 => ?_
    rw [← getD_get h1, ← getD_get h2]
    rcases hI i (Nat.zero_le _) (by omega) with e | e
    · rw [e, ha i (by omega) e]
    · exact e.1
theorem tocR_some {es : List Nd} {nums : List Int} {out : List Ti} (h : tocR es nums = some out) : treeR es = true ∧ nums.length = es.length ∧ cvSt es nums es.length = some (nums, out) := by
  unfold tocR at h
  split at h
  · rename_i ht
    cases hc : cvSt es nums es.length with
    | none => rw [hc] at h; cases h
    | some s =>
      obtain ⟨cs, o⟩ := s
      rw [hc] at h
      simp only at h
      split at h
      · rename_i e
        injection h with h; subst h; subst e
        exact ⟨ht.1, ht.2, rfl⟩
      · cases h
  · cases h
theorem tocR_mst {es : List Nd} {nums : List Int} {out : List Ti} (h : tocR es nums = some out) : out.reverse = mst es nums es.length ∧ ∀ i, i < es.length → 0 ≤ nums.getD i 0 → ∃ x, tOf es (i : Int) (nums.getD i 0) = some x := by
  obtain ⟨ht, hn, hc⟩ := tocR_some h
  have hI := cvSt_inv (Nat.le_refl _) hc
  have h3 := hI.out
  have h2 := hI.hi
  rw [Nat.sub_self] at h2 h3
  refine ⟨by rw [h3, mst, List.range_eq_range'], fun i hi h0 => ?_⟩
  rcases h2 i (Nat.zero_le _) hi with e | e
  · omega
  · exact e.2
theorem tocR_sum {es : List Nd} {nums : List Int} {out : List Ti} (h : tocR es nums = some out) : ccostR es nums = sumK (mst es nums es.length) := by
  unfold ccostR; rw [h, ← (tocR_mst h).1, sumK_reverse]; rfl
theorem tocR_uses {es : List Nd} {nums : List Int} {out : List Ti} (h : tocR es nums = some out) : tuseR es nums = usesL (mst es nums es.length) := by
  unfold tuseR; rw [h, ← (tocR_mst h).1, usesL_reverse]; rfl
theorem tocR_iff {es : List Nd} {nums : List Int} (ht : treeR es = true) (hn : nums.length = es.length) {cs : List Int} {out : List Ti} (h : cvSt es nums es.length = some (cs, out)) : (tocR es nums).isSome = decide (cs = nums) := by
  unfold tocR
  rw [if_pos ⟨ht, hn⟩, h]
  simp only
  split
  · rename_i e; rw [decide_eq_true e]; rfl
  · rename_i e; rw [decide_eq_false e]; rfl
end Go.Proofs.Ytgcbfiamhpfkhaa

/- Prices, plain. -/
namespace Go.Proofs.Ytgcbfiamhpfkhaa
open Go.RowKit
set_option linter.unusedVariables false

def wcTo (b : Int) (cs ps : List Int) (k : Nat) : Int := (ps.take k).foldl (fun s p => wrap64 (s + cs.getD p.toNat 0)) b
theorem wcTo_zero (b : Int) (cs ps : List Int) : wcTo b cs ps 0 = b := rfl
theorem wcTo_succ (b : Int) (cs : List Int) {ps : List Int} {k : Nat} (h : k < ps.length) : wcTo b cs ps (k + 1) = wrap64 (wcTo b cs ps k + cs.getD ps[k].toNat 0) := by
  unfold wcTo; rw [List.take_succ_eq_append_getElem h, List.foldl_append]; rfl
/-- A tile's cost with its parts'. -/
def wcT (cs : List Int) (x : Ti) : Int := wcTo x.c cs x.ps x.ps.length
def pcStep (i j : Nat) (c : List Int) (x : Ti) : List Int := if j = 0 ∨ wcT c x < c.getD i 0 then c.set i (wcT c x) else c
def pcTo (i : Nat) (cs : List Int) (ts : List Ti) : Nat → List Int
  | 0 => cs
  | j + 1 => pcStep i j (pcTo i cs ts j) (ts.getD j noTi)
theorem pcTo_zero (i : Nat) (cs : List Int) (ts : List Ti) : pcTo i cs ts 0 = cs := rfl
theorem pcTo_succ (i : Nat) (cs : List Int) {ts : List Ti} {j : Nat} (h : j < ts.length) : pcTo i cs ts (j + 1) = pcStep i j (pcTo i cs ts j) ts[j] := by
  show pcStep i j (pcTo i cs ts j) (ts.getD j noTi) = _
  rw [List.getD_eq_getElem?_getD, List.getElem?_eq_getElem h]; rfl
theorem pcStep_len (i j : Nat) (c : List Int) (x : Ti) : (pcStep i j c x).length = c.length := by unfold pcStep; split <;> simp
theorem pcTo_len (i : Nat) (cs : List Int) (ts : List Ti) : ∀ j, (pcTo i cs ts j).length = cs.length
  | 0 => rfl
  | j + 1 => by show (pcStep _ _ _ _).length = _; rw [pcStep_len, pcTo_len]
theorem pcStep_set {i j : Nat} {c : List Int} {x : Ti} (h : j = 0 ∨ wcT c x < c.getD i 0) : pcStep i j c x = c.set i (wcT c x) := if_pos h
theorem pcStep_old {i j : Nat} {c : List Int} {x : Ti} (h : ¬ (j = 0 ∨ wcT c x < c.getD i 0)) : pcStep i j c x = c := if_neg h
def prTo (es : List Nd) : Nat → List Int
  | 0 => zeros es.length
  | k + 1 => pcTo k (prTo es k) (tsN es k) (tsN es k).length
theorem prTo_zero (es : List Nd) : prTo es 0 = zeros es.length := rfl
theorem prTo_next (es : List Nd) (k : Nat) : prTo es (k + 1) = pcTo k (prTo es k) (tsN es k) (tsN es k).length := rfl
theorem prTo_len (es : List Nd) : ∀ k, (prTo es k).length = es.length
  | 0 => by rw [prTo_zero]; simp [zeros]
  | k + 1 => by rw [prTo_next, pcTo_len, prTo_len]
def pricesR (es : List Nd) : List Int := if treeR es = true then prTo es es.length else []
theorem pricesR_len (es : List Nd) : (pricesR es).length ≤ 1048576 := by
  unfold pricesR; split
  · rename_i ht
    unfold treeR at ht; simp only [Bool.and_eq_true] at ht
    have := (good_len ht.1).2.1
    rw [prTo_len]; omega
  · simp
theorem tsN_c {es : List Nd} {k : Nat} (hk : k < es.length) {x : Ti} (hx : x ∈ tsN es k) : ∃ n : Nat, n < 13 ∧ x.num = (n : Int) ∧ x.c = ctN n es[k] ∧ mt es es[k] n = some x := by
  rw [tsN_eq hk] at hx
  obtain ⟨j, hj, rfl⟩ := List.getElem_of_mem hx
  obtain ⟨n, hn, he, hm⟩ := tilesL_at (es := es) es[k] hj
  exact ⟨n, hn, he, mt_c hm, hm⟩
end Go.Proofs.Ytgcbfiamhpfkhaa

/- Tiles chosen node by node: plain. -/
namespace Go.Proofs.Ytgcbfiamhpfkhaa
open Go.RowKit
set_option linter.unusedVariables false

/-- The first of the first tiles with the least key. -/
def minTo (K : Ti → Int) (ts : List Ti) : Nat → Ti
  | 0 => ts.getD 0 noTi
  | j + 1 => if K (ts.getD (j + 1) noTi) < K (minTo K ts j) then ts.getD (j + 1) noTi else minTo K ts j
theorem minTo_zero (K : Ti → Int) (ts : List Ti) : minTo K ts 0 = ts.getD 0 noTi := rfl
theorem minTo_less {K : Ti → Int} {ts : List Ti} {j : Nat} (h : K (ts.getD (j + 1) noTi) < K (minTo K ts j)) : minTo K ts (j + 1) = ts.getD (j + 1) noTi := by
  show (if _ then _ else _) = _; rw [if_pos h]
theorem minTo_keep {K : Ti → Int} {ts : List Ti} {j : Nat} (h : ¬ K (ts.getD (j + 1) noTi) < K (minTo K ts j)) : minTo K ts (j + 1) = minTo K ts j := by
  show (if _ then _ else _) = _; rw [if_neg h]
theorem getDT {ts : List Ti} {j : Nat} (h : j < ts.length) : ts.getD j noTi = ts[j] := by
  rw [List.getD_eq_getElem?_getD, List.getElem?_eq_getElem h]; rfl
/-- It is one of them, none has a lesser key, and those before it have greater ones. -/
theorem minTo_at (K : Ti → Int) (ts : List Ti) : ∀ j, j < ts.length → ∃ (m : Nat) (h : m < ts.length), m ≤ j ∧ minTo K ts j = ts[m] ∧ (∀ i (hi : i < ts.length), i ≤ j → K ts[m] ≤ K ts[i]) ∧ (∀ i (hi : i < ts.length), i < m → K ts[m] < K ts[i])
  | 0, hj => ⟨0, hj, Nat.le_refl _, by rw [minTo_zero, getDT hj], fun i hi h => by obtain rfl : i = 0 := by omega
                                                                                   exact Int.le_refl _, fun i hi h => by omega⟩
  | j + 1, hj => by
    obtain ⟨m, hm, hmj, he, h1, h2⟩ := minTo_at K ts j (by omega)
    by_cases hq : K (ts.getD (j + 1) noTi) < K (minTo K ts j)
    · rw [minTo_less hq]
      rw [he, getDT hj] at hq
      refine ⟨j + 1, hj, Nat.le_refl _, getDT hj, fun i hi h => ?_, fun i hi h => ?_⟩
      · rcases Nat.lt_or_ge j i with h' | h'
        · obtain rfl : i = j + 1 := by omega
          exact Int.le_refl _
        · have := h1 i hi h'; omega
      · have := h1 i hi (by omega); omega
    · rw [minTo_keep hq]
      rw [he, getDT hj] at hq
      refine ⟨m, hm, by omega, he, fun i hi h => ?_, h2⟩
      rcases Nat.lt_or_ge j i with h' | h'
      · obtain rfl : i = j + 1 := by omega
        omega
      · exact h1 i hi h'
/-- The tile that is chosen at a node. -/
def chK (K : Ti → Int) (ts : List Ti) : Ti := minTo K ts (ts.length - 1)
theorem chK_mem {K : Ti → Int} {ts : List Ti} (h : 0 < ts.length) : chK K ts ∈ ts := by
  obtain ⟨m, hm, _, he, _⟩ := minTo_at K ts (ts.length - 1) (by omega)
  unfold chK; rw [he]; exact List.getElem_mem _
theorem chK_le {K : Ti → Int} {ts : List Ti} : ∀ x ∈ ts, K (chK K ts) ≤ K x := by
  intro x hx
  obtain ⟨i, hi, rfl⟩ := List.getElem_of_mem hx
  obtain ⟨m, hm, _, he, h1, _⟩ := minTo_at K ts (ts.length - 1) (by omega)
  unfold chK; rw [he]; exact h1 i hi (by omega)
/-- The first tile with a key. -/
def fstTo (K : Ti → Int) (p : Int) (ts : List Ti) (j : Nat) : Option Ti := (ts.take j).find? (fun x => decide (K x = p))
theorem fstTo_zero (K : Ti → Int) (p : Int) (ts : List Ti) : fstTo K p ts 0 = none := rfl
theorem fstTo_succ {K : Ti → Int} {p : Int} {ts : List Ti} {j : Nat} (h : j < ts.length) : fstTo K p ts (j + 1) = (fstTo K p ts j).or (if K ts[j] = p then some ts[j] else none) := by
  unfold fstTo
  rw [List.take_succ_eq_append_getElem h, List.find?_append]
  congr 1
  by_cases e : K ts[j] = p <;> simp [e]
theorem fstTo_some {K : Ti → Int} {p : Int} {ts : List Ti} {j : Nat} {x : Ti} (h : fstTo K p ts j = some x) : x ∈ ts := List.mem_of_mem_take (List.mem_of_find?_eq_some h)
theorem fstTo_all {K : Ti → Int} {ts : List Ti} (h0 : 0 < ts.length) : fstTo K (K (chK K ts)) ts ts.length = some (chK K ts) := by
  obtain ⟨m, hm, _, he, h1, h2⟩ := minTo_at K ts (ts.length - 1) (by omega)
  have he' : chK K ts = ts[m] := he
  unfold fstTo
  rw [List.take_length, he', List.find?_eq_some_iff_getElem]
  exact ⟨by simp, m, hm, rfl, fun i hi => by have := h2 i (by omega) hi; simp; omega⟩

/-- The cover when some rounds from the root back have been. -/
def chSt (n : Nat) (ch : Nat → Ti) : Nat → List Int
  | 0 => opn n
  | j + 1 => if (chSt n ch j).getD (n - 1 - j) 0 = -2 then layL (chSt n ch j) (n - 1 - j) (ch (n - 1 - j)) else chSt n ch j
theorem chSt_zero (n : Nat) (ch : Nat → Ti) : chSt n ch 0 = opn n := rfl
theorem chSt_lay {n : Nat} {ch : Nat → Ti} {j : Nat} (h : (chSt n ch j).getD (n - 1 - j) 0 = -2) : chSt n ch (j + 1) = layL (chSt n ch j) (n - 1 - j) (ch (n - 1 - j)) := by
  show (if _ then _ else _) = _; rw [if_pos h]
theorem chSt_skip {n : Nat} {ch : Nat → Ti} {j : Nat} (h : ¬ (chSt n ch j).getD (n - 1 - j) 0 = -2) : chSt n ch (j + 1) = chSt n ch j := by
  show (if _ then _ else _) = _; rw [if_neg h]
theorem chSt_len (n : Nat) (ch : Nat → Ti) : ∀ j, (chSt n ch j).length = n
  | 0 => opn_len n
  | j + 1 => by
    show (if _ then _ else _ : List Int).length = _
    split
    · rw [layL_len]; exact chSt_len n ch j
    · exact chSt_len n ch j
/-- The nodes that get a tile. -/
def Rch (n : Nat) (ch : Nat → Ti) (i : Nat) : Prop := ∀ S : Nat → Prop, S (n - 1) → (∀ q, S q → ∀ p ∈ (ch q).ps, S p.toNat) → S i
theorem Rch.root (n : Nat) (ch : Nat → Ti) : Rch n ch (n - 1) := fun S h _ => h
theorem Rch.part {n : Nat} {ch : Nat → Ti} {q : Nat} (h : Rch n ch q) {p : Int} (hp : p ∈ (ch q).ps) : Rch n ch p.toNat := fun S h0 h1 => h1 q (h S h0 h1) p hp
theorem Rch.inv {n : Nat} {ch : Nat → Ti} {i : Nat} (h : Rch n ch i) : i = n - 1 ∨ ∃ q, Rch n ch q ∧ ∃ p ∈ (ch q).ps, p.toNat = i := by
  have := h (fun i => Rch n ch i ∧ (i = n - 1 ∨ ∃ q, Rch n ch q ∧ ∃ p ∈ (ch q).ps, p.toNat = i)) ⟨Rch.root n ch, .inl rfl⟩ (fun q hq p hp => ⟨hq.1.part hp, .inr ⟨q, hq.1, p, hp, rfl⟩⟩)
  exact this.2
structure ChInv (n : Nat) (ch : Nat → Ti) (k : Nat) (cs : List Int) : Prop where
  hi : ∀ i, k ≤ i → i < n → (Rch n ch i → cs.getD i 0 = (ch i).num) ∧ (¬ Rch n ch i → cs.getD i 0 = -1)
  lo : ∀ i, i < k → ((i = n - 1 ∨ ∃ q, k ≤ q ∧ Rch n ch q ∧ ∃ p ∈ (ch q).ps, p.toNat = i) → cs.getD i 0 = -2) ∧ (¬ (i = n - 1 ∨ ∃ q, k ≤ q ∧ Rch n ch q ∧ ∃ p ∈ (ch q).ps, p.toNat = i) → cs.getD i 0 = -1)
theorem Rch.lt {n : Nat} {ch : Nat → Ti} (h1 : 1 ≤ n) (hp : ∀ i, i < n → ∀ p ∈ (ch i).ps, 0 ≤ p ∧ p < (i : Int)) {i : Nat} (h : Rch n ch i) : i < n :=
  h (fun i => i < n) (by omega) (fun q hq p hpq => by have := hp q hq p hpq; omega)
theorem chSt_inv {n : Nat} {ch : Nat → Ti} (h1 : 1 ≤ n) (hp : ∀ i, i < n → ∀ p ∈ (ch i).ps, 0 ≤ p ∧ p < (i : Int)) : ∀ j, j ≤ n → ChInv n ch (n - j) (chSt n ch j)
  | 0, _ => by
    refine ⟨fun i h1 h2 => by omega, fun i hi => ?_⟩
    rw [chSt_zero]; unfold opn
    rw [getDI_set _ _ _ (by simp; omega)]
    refine ⟨fun h => ?_, fun h => ?_⟩
    · rcases h with rfl | ⟨q, hq, hr, _⟩
      · rw [if_pos rfl]
      · have := hr.lt h1 hp; omega
    · rw [if_neg (fun e => h (.inl e.symm))]
      rw [List.getD_eq_getElem?_getD, List.getElem?_replicate, if_pos (by omega)]; rfl
  | j + 1, hj => by
    have ih := chSt_inv h1 hp j (by omega)
    have hl := chSt_len n ch j
    obtain ⟨k, hk⟩ : ∃ k, k = n - 1 - j := ⟨_, rfl⟩
    have hkn : k < (chSt n ch j).length := by omega
    have e1 : n - (j + 1) = k := by omega
    have e2 : n - j = k + 1 := by omega
    rw [e2] at ih
    rw [e1]
    have hR : Rch n ch k ↔ (k = n - 1 ∨ ∃ q, k + 1 ≤ q ∧ Rch n ch q ∧ ∃ p ∈ (ch q).ps, p.toNat = k) := by
      refine ⟨fun h => ?_, fun h => ?_⟩
      · rcases h.inv with h | ⟨q, hq, p, hpq, e⟩
        · exact .inl h
        · have := hp q (hq.lt h1 hp) p hpq
          exact .inr ⟨q, by omega, hq, p, hpq, e⟩
      · rcases h with rfl | ⟨q, _, hq, p, hpq, e⟩
        · exact Rch.root n ch
        · rw [← e]; exact hq.part hpq
    by_cases hc : (chSt n ch j).getD (n - 1 - j) 0 = -2
    · rw [chSt_lay hc, ← hk]
      rw [← hk] at hc
      have hrk : Rch n ch k := hR.2 (Classical.byContradiction fun h => by have := (ih.lo k (by omega)).2 h; omega)
      have hpk := hp k (by omega)
      refine ⟨fun i h2 h3 => ?_, fun i hi => ?_⟩
      · rcases Nat.lt_or_ge k i with h | h
        · rw [layL_ge hkn hpk h]; exact ih.hi i (by omega) h3
        · obtain rfl : i = k := by omega
          rw [layL_at hkn hpk]
          exact ⟨fun _ => rfl, fun h => absurd hrk h⟩
      · rw [layL_get hkn hpk]
        by_cases hx : ∃ p ∈ (ch k).ps, p.toNat = i
        · rw [if_pos hx]
          exact ⟨fun _ => rfl, fun h => absurd (.inr ⟨k, Nat.le_refl _, hrk, hx⟩) h⟩
        · rw [if_neg hx, if_neg (by omega)]
          have ihi := ih.lo i (by omega)
          have hiff : (i = n - 1 ∨ ∃ q, k ≤ q ∧ Rch n ch q ∧ ∃ p ∈ (ch q).ps, p.toNat = i) ↔ (i = n - 1 ∨ ∃ q, k + 1 ≤ q ∧ Rch n ch q ∧ ∃ p ∈ (ch q).ps, p.toNat = i) := by
            refine or_congr Iff.rfl ⟨?_, ?_⟩
            · rintro ⟨q, h, hq, hh⟩
              rcases Nat.lt_or_ge k q with h' | h'
              · exact ⟨q, h', hq, hh⟩
              · obtain rfl : q = k := by omega
                exact absurd hh hx
            · rintro ⟨q, h, hq, hh⟩; exact ⟨q, by omega, hq, hh⟩
          rw [hiff]; exact ihi
    · rw [chSt_skip hc]
      rw [← hk] at hc
      have hrk : ¬ Rch n ch k := fun h => hc ((ih.lo k (by omega)).1 (hR.1 h))
      refine ⟨fun i h2 h3 => ?_, fun i hi => ?_⟩
      · rcases Nat.lt_or_ge k i with h | h
        · exact ih.hi i (by omega) h3
        · obtain rfl : i = k := by omega
          exact ⟨fun h => absurd h hrk, fun _ => (ih.lo i (by omega)).2 (fun h => hrk (hR.2 h))⟩
      · have ihi := ih.lo i (by omega)
        have hiff : (i = n - 1 ∨ ∃ q, k ≤ q ∧ Rch n ch q ∧ ∃ p ∈ (ch q).ps, p.toNat = i) ↔ (i = n - 1 ∨ ∃ q, k + 1 ≤ q ∧ Rch n ch q ∧ ∃ p ∈ (ch q).ps, p.toNat = i) := by
          refine or_congr Iff.rfl ⟨?_, ?_⟩
          · rintro ⟨q, h, hq, hh⟩
            rcases Nat.lt_or_ge k q with h' | h'
            · exact ⟨q, h', hq, hh⟩
            · obtain rfl : q = k := by omega
              exact absurd hq hrk
          · rintro ⟨q, h, hq, hh⟩; exact ⟨q, by omega, hq, hh⟩
        rw [hiff]; exact ihi
/-- The cover. -/
def chR (n : Nat) (ch : Nat → Ti) : List Int := chSt n ch n
theorem chR_len (n : Nat) (ch : Nat → Ti) : (chR n ch).length = n := chSt_len n ch n
theorem chR_get {n : Nat} {ch : Nat → Ti} (h1 : 1 ≤ n) (hp : ∀ i, i < n → ∀ p ∈ (ch i).ps, 0 ≤ p ∧ p < (i : Int)) (i : Nat) (hi : i < n) : (Rch n ch i → (chR n ch).getD i 0 = (ch i).num) ∧ (¬ Rch n ch i → (chR n ch).getD i 0 = -1) := by
  have := chSt_inv h1 hp n (Nat.le_refl _)
  rw [Nat.sub_self] at this
  exact this.hi i (Nat.zero_le _) hi

/-- What the model has: a list of nodes that grows, and the cover. -/
def potO (o : List Int) (k : Nat) : Nat := ((o.drop k).map (fun p => 3 ^ p.toNat)).sum
theorem potO_next {o : List Int} {k : Nat} (h : k < o.length) {ps : List Int} (h2 : ps.length ≤ 2) (hp : ∀ p ∈ ps, 0 ≤ p ∧ p < o.getD k 0) : potO (o ++ ps) (k + 1) + 1 ≤ potO o k := by
  unfold potO
  rw [List.drop_append_of_le_length (by omega), List.map_append, List.sum_append, List.drop_eq_getElem_cons h, List.map_cons, List.sum_cons]
  rw [getD_get h] at hp
  have hps : (ps.map (fun p => 3 ^ p.toNat)).sum + 1 ≤ 3 ^ (o[k]).toNat := by
    have hb : ∀ p ∈ ps, 3 * 3 ^ p.toNat ≤ 3 ^ (o[k]).toNat := by
      intro p h
      have := hp p h
      obtain ⟨d, hd⟩ : ∃ d, (o[k]).toNat = p.toNat + 1 + d := ⟨(o[k]).toNat - p.toNat - 1, by omega⟩
      rw [hd, Nat.pow_add, Nat.pow_succ, Nat.mul_comm 3]
      exact Nat.le_mul_of_pos_right _ (Nat.pow_pos (by omega))
    have hpos : 1 ≤ 3 ^ (o[k]).toNat := Nat.pow_pos (by omega)
    match ps, h2, hb with
    | [], _, _ => simpa using hpos
    | [p], _, hb => have := hb p (by simp); have h0 : 1 ≤ 3 ^ p.toNat := Nat.pow_pos (by omega); simp; omega
    | [p, q], _, hb => have := hb p (by simp); have h3 := hb q (by simp); have h0 : 1 ≤ 3 ^ p.toNat := Nat.pow_pos (by omega); simp; omega
  omega
theorem potO_len (o : List Int) (k : Nat) : o.length ≤ k + potO o k := by
  have : (o.drop k).length ≤ potO o k := by
    unfold potO
    generalize o.drop k = l
    induction l with
    | nil => simp
    | cons p l ih => have h0 : 1 ≤ 3 ^ p.toNat := Nat.pow_pos (by omega); simp; omega
  rw [List.length_drop] at this
  omega
structure MoInv (n : Nat) (ch : Nat → Ti) (k : Nat) (o c : List Int) : Prop where
  len : c.length = n
  rng : ∀ p ∈ o, 0 ≤ p ∧ p < (n : Int)
  rr : ∀ p ∈ o, Rch n ch p.toNat
  root : ((n : Int) - 1) ∈ o
  clo : ∀ m, m < k → m < o.length → ∀ p ∈ (ch (o.getD m 0).toNat).ps, p ∈ o
  pos : ∀ i, i < n → (∃ m, m < k ∧ m < o.length ∧ (o.getD m 0).toNat = i) → c.getD i 0 = (ch i).num
  neg : ∀ i, i < n → (¬ ∃ m, m < k ∧ m < o.length ∧ (o.getD m 0).toNat = i) → c.getD i 0 = -1
  pot : k + potO o k ≤ 3 ^ 23
theorem MoInv.first {n : Nat} (ch : Nat → Ti) (h1 : 1 ≤ n) (h24 : n ≤ 24) : MoInv n ch 0 [(n : Int) - 1] (List.replicate n (-1)) := by
  refine ⟨by simp, ?_, ?_, by simp, fun m hm => by omega, ?_, ?_, ?_⟩
  · intro p hp; simp at hp; omega
  · intro p hp
    simp at hp; subst hp
    rw [show ((n : Int) - 1).toNat = n - 1 by omega]; exact Rch.root n ch
  · rintro i hi ⟨m, hm, _⟩; omega
  · intro i hi _
    rw [List.getD_eq_getElem?_getD, List.getElem?_replicate, if_pos hi]; rfl
  · unfold potO
    simp only [List.drop_zero, List.map_cons, List.map_nil, List.sum_cons, List.sum_nil]
    rw [show ((n : Int) - 1).toNat = n - 1 by omega]
    have : 3 ^ (n - 1) ≤ 3 ^ 23 := Nat.pow_le_pow_right (by omega) (by omega)
    omega
theorem MoInv.next {n : Nat} {ch : Nat → Ti} (h1 : 1 ≤ n) (hp : ∀ i, i < n → ∀ p ∈ (ch i).ps, 0 ≤ p ∧ p < (i : Int)) (hp2 : ∀ i, i < n → (ch i).ps.length ≤ 2) (hnum : ∀ i, i < n → 0 ≤ (ch i).num) {k : Nat} {o c : List Int} (h : MoInv n ch k o c) (hk : k < o.length) {i : Nat} (hi : o.getD k 0 = (i : Int)) {c' : List Int} (hc : c' = if c.getD i 0 < 0 then c.set i (ch i).num else c) : MoInv n ch (k + 1) (o ++ (ch i).ps) c' := by
  have hin : i < n := by
    have := h.rng (o.getD k 0) (by rw [getD_get hk]; exact List.getElem_mem _)
    omega
  have hpi := hp i hin
  have hgo : ∀ m, m < o.length → (o ++ (ch i).ps).getD m 0 = o.getD m 0 := fun m hm => by
    rw [List.getD_eq_getElem?_getD, List.getD_eq_getElem?_getD, List.getElem?_append_left hm]
  have hlen : c'.length = n := by rw [hc]; split <;> simp [h.len]
  have hri : Rch n ch i := by
    have := h.rr (o.getD k 0) (by rw [getD_get hk]; exact List.getElem_mem _)
    rw [hi] at this; exact this
  -- what stands at a place
  have hset : ∀ a, a < n → c'.getD a 0 = if a = i then (ch i).num else c.getD a 0 := by
    intro a ha
    rw [hc]
    by_cases hneg : c.getD i 0 < 0
    · rw [if_pos hneg, getDI_set _ _ _ (by rw [h.len]; exact hin)]
      by_cases e : i = a
      · rw [if_pos e, if_pos e.symm]
      · rw [if_neg e, if_neg (Ne.symm e)]
    · rw [if_neg hneg]
      by_cases e : a = i
      · rw [if_pos e, e]
        by_cases hm : ∃ m, m < k ∧ m < o.length ∧ (o.getD m 0).toNat = i
        · exact h.pos i hin hm
        · have := h.neg i hin hm; omega
      · rw [if_neg e]
  have hpl : (o ++ (ch i).ps).length = o.length + (ch i).ps.length := List.length_append
  refine ⟨hlen, ?_, ?_, ?_, ?_, ?_, ?_, ?_⟩
  · intro p hpo
    rcases List.mem_append.1 hpo with h' | h'
    · exact h.rng p h'
    · have := hpi p h'; omega
  · intro p hpo
    rcases List.mem_append.1 hpo with h' | h'
    · exact h.rr p h'
    · exact hri.part h'
  · exact List.mem_append_left _ h.root
  · intro m hm hml p hpm
    rcases Nat.lt_or_ge m k with h' | h'
    · rw [hgo m (by omega)] at hpm
      exact List.mem_append_left _ (h.clo m h' (by omega) p hpm)
    · obtain rfl : m = k := by omega
      rw [hgo m hk, hi] at hpm
      exact List.mem_append_right _ hpm
  · rintro a ha ⟨m, hm, hml, e⟩
    rw [hset a ha]
    split
    · rename_i e'; rw [e']
    · rename_i e'
      have hmk : m < k := by
        rcases Nat.lt_or_ge m k with h' | h'
        · exact h'
        · obtain rfl : m = k := by omega
          rw [hgo m hk, hi] at e
          exact absurd (by rw [← e]; rfl) e'
      rw [hgo m (by omega)] at e
      exact h.pos a ha ⟨m, hmk, by omega, e⟩
  · intro a ha hno
    rw [hset a ha, if_neg, h.neg a ha]
    · rintro ⟨m, hm, hml, e⟩
      exact hno ⟨m, by omega, by omega, by rw [hgo m hml]; exact e⟩
    · rintro rfl
      exact hno ⟨k, by omega, by omega, by rw [hgo k hk, hi]; rfl⟩
  · have := potO_next hk (hp2 i hin) (fun p h' => by rw [hi]; exact hpi p h')
    have := h.pot
    omega
theorem MoInv.last {n : Nat} {ch : Nat → Ti} (h1 : 1 ≤ n) (hp : ∀ i, i < n → ∀ p ∈ (ch i).ps, 0 ≤ p ∧ p < (i : Int)) {k : Nat} {o c : List Int} (h : MoInv n ch k o c) (hk : o.length ≤ k) : c = chR n ch := by
  have hcl : ∀ i, Rch n ch i → ∃ m, m < o.length ∧ (o.getD m 0).toNat = i := by
    intro i hr
    refine hr (fun i => ∃ m, m < o.length ∧ (o.getD m 0).toNat = i) ?_ ?_
    · obtain ⟨m, hm, e⟩ := List.getElem_of_mem h.root
      exact ⟨m, hm, by rw [getD_get hm, e]; omega⟩
    · rintro q ⟨m, hm, e⟩ p hpq
      have := h.clo m (by omega) hm p (by rw [e]; exact hpq)
      obtain ⟨m', hm', e'⟩ := List.getElem_of_mem this
      exact ⟨m', hm', by rw [getD_get hm', e']⟩
  refine List.ext_getElem (by rw [h.len, chR_len]) fun i h2 h3 => ?_
  have hi : i < n := by rw [← h.len]; exact h2
  rw [← getD_get h2, ← getD_get h3]
  have hR := chR_get h1 hp i hi
  by_cases hr : Rch n ch i
  · obtain ⟨m, hm, e⟩ := hcl i hr
    rw [hR.1 hr, h.pos i hi ⟨m, by omega, hm, e⟩]
  · rw [hR.2 hr, h.neg i hi]
    rintro ⟨m, hm, hml, e⟩
    refine hr ?_
    have := h.rr (o.getD m 0) (by rw [getD_get hml]; exact List.getElem_mem _)
    rw [e] at this; exact this
end Go.Proofs.Ytgcbfiamhpfkhaa

/- The best choice: plain. -/
namespace Go.Proofs.Ytgcbfiamhpfkhaa
open Go.RowKit
set_option linter.unusedVariables false

theorem wcT_agree {c c' : List Int} {x : Ti} (h : ∀ p ∈ x.ps, c.getD p.toNat 0 = c'.getD p.toNat 0) : wcT c x = wcT c' x := by
  unfold wcT wcTo
  rw [List.take_length]
  generalize x.c = b
  generalize x.ps = ps at *
  induction ps generalizing b with
  | nil => rfl
  | cons p ps ih => rw [List.foldl_cons, List.foldl_cons, h p (by simp)]; exact ih _ (fun q hq => h q (by simp [hq]))
theorem minTo_congr {K K' : Ti → Int} {ts : List Ti} (h : ∀ x ∈ ts, K x = K' x) : ∀ j, j < ts.length → minTo K ts j = minTo K' ts j
  | 0, _ => rfl
  | j + 1, hj => by
    have ih := minTo_congr h j (by omega)
    obtain ⟨m, hm, _, he, _⟩ := minTo_at K ts j (by omega)
    have e1 : K (ts.getD (j + 1) noTi) = K' (ts.getD (j + 1) noTi) := by rw [getDT hj]; exact h _ (List.getElem_mem _)
    have e2 : K (minTo K ts j) = K' (minTo K ts j) := by rw [he]; exact h _ (List.getElem_mem _)
    show (if _ then _ else _) = (if _ then _ else _)
    rw [← ih, ← e1, ← e2]
theorem pcTo_old {i : Nat} {cs : List Int} {ts : List Ti} {a : Nat} (h : a ≠ i) (hi : i < cs.length) : ∀ j, (pcTo i cs ts j).getD a 0 = cs.getD a 0
  | 0 => rfl
  | j + 1 => by
    show (pcStep _ _ _ _).getD a 0 = _
    unfold pcStep
    split
    · rw [getDI_set _ _ _ (by rw [pcTo_len]; exact hi), if_neg (Ne.symm h)]; exact pcTo_old h hi j
    · exact pcTo_old h hi j
theorem pcTo_least {i : Nat} {cs : List Int} {ts : List Ti} (hi : i < cs.length) (hp : ∀ x ∈ ts, ∀ p ∈ x.ps, 0 ≤ p ∧ p < (i : Int)) : ∀ j, j < ts.length → (pcTo i cs ts (j + 1)).getD i 0 = wcT cs (minTo (wcT cs) ts j) := by
  have hw : ∀ j, ∀ x ∈ ts, wcT (pcTo i cs ts j) x = wcT cs x := fun j x hx => wcT_agree fun p h => pcTo_old (by have := hp x hx p h; omega) hi j
  intro j
  induction j with
  | zero =>
    intro hj
    rw [pcTo_succ i cs hj, pcStep_set (.inl rfl), getDI_set _ _ _ (by rw [pcTo_len]; exact hi), if_pos rfl, hw 0 _ (List.getElem_mem _), minTo_zero, getDT hj]
  | succ j ih =>
    intro hj
    have ih := ih (by omega)
    rw [pcTo_succ i cs hj]
    have e := hw (j + 1) ts[j + 1] (List.getElem_mem _)
    by_cases hq : wcT cs (ts.getD (j + 1) noTi) < wcT cs (minTo (wcT cs) ts j)
    · rw [minTo_less hq, getDT hj]
      rw [getDT hj] at hq
      rw [pcStep_set (.inr (by rw [e, ih]; exact hq)), getDI_set _ _ _ (by rw [pcTo_len]; exact hi), if_pos rfl, e]
    · rw [minTo_keep hq]
      rw [getDT hj] at hq
      rw [pcStep_old (by rintro (h | h)
                         · omega
                         · rw [e, ih] at h; exact hq h), ih]
theorem prTo_fix {es : List Nd} {i : Nat} : ∀ d, i + 1 + d ≤ es.length → (prTo es (i + 1 + d)).getD i 0 = (prTo es (i + 1)).getD i 0
  | 0, _ => rfl
  | d + 1, h => by
    rw [show i + 1 + (d + 1) = (i + 1 + d) + 1 by omega, prTo_next, pcTo_old (by omega) (by rw [prTo_len]; omega)]
    exact prTo_fix d (by omega)
theorem prTo_low {es : List Nd} {i k m : Nat} (h1 : i < k) (h2 : k ≤ m) (h3 : m ≤ es.length) : (prTo es m).getD i 0 = (prTo es k).getD i 0 := by
  obtain ⟨d, rfl⟩ : ∃ d, k = i + 1 + d := ⟨k - i - 1, by omega⟩
  obtain ⟨d', rfl⟩ : ∃ d', m = i + 1 + d' := ⟨m - i - 1, by omega⟩
  rw [prTo_fix d (by omega), prTo_fix d' h3]
/-- The key of the best cover, and of the largest one. -/
def kB (es : List Nd) (x : Ti) : Int := wcT (prTo es es.length) x
def kG (x : Ti) : Int := x.c - 5 * (x.ins.length : Int)
theorem kB_low {es : List Nd} (hok : okFrom es 0 = true) {i : Nat} (hi : i < es.length) {x : Ti} (hx : x ∈ tsN es i) : kB es x = wcT (prTo es i) x :=
  wcT_agree fun p hp => by have := tsN_ps hok hi x hx p hp; exact prTo_low (by omega) (by omega) (Nat.le_refl _)
theorem tsN_pos {es : List Nd} (hok : okFrom es 0 = true) {k : Nat} (hk : k < es.length) : 0 < (tsN es k).length := by
  rw [tsN_eq hk, ← prog_tiles (ok_get hok hk)]; simp
/-- The price of a node is the least key of its tiles. -/
theorem price_least {es : List Nd} (hok : okFrom es 0 = true) {i : Nat} (hi : i < es.length) : (prTo es es.length).getD i 0 = kB es (chK (kB es) (tsN es i)) := by
  have hl := tsN_pos hok hi
  rw [prTo_low (i := i) (k := i + 1) (by omega) (by omega) (Nat.le_refl _), prTo_next]
  obtain ⟨d, hd⟩ : ∃ d, (tsN es i).length = d + 1 := ⟨(tsN es i).length - 1, by omega⟩
  rw [hd, pcTo_least (by rw [prTo_len]; exact hi) (tsN_ps hok hi) d (by omega)]
  have e : minTo (wcT (prTo es i)) (tsN es i) d = chK (kB es) (tsN es i) := by
    unfold chK
    rw [hd, Nat.add_sub_cancel]
    exact (minTo_congr (fun x hx => kB_low hok hi hx) d (by omega)).symm
  rw [e, kB_low hok hi (chK_mem hl)]
/-- The tile that a key chooses at a node of the tree. -/
def chE (K : Ti → Int) (es : List Nd) (i : Nat) : Ti := chK K (tsN es i)
theorem chE_mem {es : List Nd} (hok : okFrom es 0 = true) (K : Ti → Int) {i : Nat} (hi : i < es.length) : chE K es i ∈ tsN es i := chK_mem (tsN_pos hok hi)
theorem chE_ps {es : List Nd} (hok : okFrom es 0 = true) (K : Ti → Int) : ∀ i, i < es.length → ∀ p ∈ (chE K es i).ps, 0 ≤ p ∧ p < (i : Int) := fun i hi => tsN_ps hok hi _ (chE_mem hok K hi)
theorem chE_ps2 {es : List Nd} (hok : okFrom es 0 = true) (K : Ti → Int) : ∀ i, i < es.length → (chE K es i).ps.length ≤ 2 := fun i hi => tsN_ps2 _ (chE_mem hok K hi)
theorem chE_num {es : List Nd} (hok : okFrom es 0 = true) (K : Ti → Int) : ∀ i, i < es.length → 0 ≤ (chE K es i).num ∧ (chE K es i).num ≤ 12 := fun i hi => by
  obtain ⟨n, hn, he, _⟩ := tsN_c hi (chE_mem hok K hi)
  omega
def bestR (es : List Nd) : List Int := if treeR es = true then chR es.length (chE (kB es) es) else []
def largeR (es : List Nd) : List Int := if treeR es = true then chR es.length (chE kG es) else []
end Go.Proofs.Ytgcbfiamhpfkhaa

/- CountCovers of the model. -/
namespace Go.Proofs.Ytgcbfiamhpfkhaa
open Go.RowKit
set_option linter.unusedVariables false
set_option maxRecDepth 100000

end Go.Proofs.Ytgcbfiamhpfkhaa
