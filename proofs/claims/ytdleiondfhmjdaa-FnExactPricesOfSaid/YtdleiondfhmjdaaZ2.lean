/- Texts of this proof, one behind the other: GH, GS, GV, WB, GJ, GW. -/
import Derived.Test.YtdleiondfhmjdaaZ3
import Derived.Test.YtdleiondfhmjdaaZ5
import Derived.Maps.OwnOps
import Derived.Maps.OwnSet
import Derived.Maps.Views
import Derived.WalkKit
import Derived.Lib.Hide
import Derived.Test.YtdleiondfhmjdaaD2
import Derived.Test.YtdleiondfhmjdaaLI
import Derived.WalkSpells
import Derived.WalkLawsBesides
/- A cover's tiles, told in order: plain. -/
namespace Go.Proofs.Ytdleiondfhmjdaa
open Go.RowKit
set_option linter.unusedVariables false

def sumK (ts : List Ti) : Int := (ts.map Ti.c).sum
theorem sumK_snoc (ts : List Ti) (x : Ti) : sumK (ts ++ [x]) = sumK ts + x.c := by simp [sumK]
def usesL (ts : List Ti) : List Int := (List.range 13 : List Nat).map (fun (t : Nat) => ((ts.countP (fun x => x.num == (t : Int)) : Nat) : Int))
theorem usesL_len (ts : List Ti) : (usesL ts).length = 13 := by simp [usesL]
theorem usesL_get (ts : List Ti) {t : Nat} (h : t < 13) : (usesL ts).getD t 0 = ((ts.countP (fun x => x.num == (t : Int)) : Nat) : Int) := by
  rw [List.getD_eq_getElem?_getD, List.getElem?_eq_getElem (by simp [usesL]; exact h)]; simp [usesL]
theorem usesL_bd (ts : List Ti) (t : Nat) : 0 ≤ (usesL ts).getD t 0 ∧ (usesL ts).getD t 0 ≤ ts.length := by
  by_cases h : t < 13
  · rw [usesL_get ts h]; have := List.countP_le_length (p := fun x : Ti => x.num == (t : Int)) (l := ts); omega
  · rw [List.getD_eq_getElem?_getD, List.getElem?_eq_none (by simp [usesL]; omega)]; simp
theorem usesL_nil : usesL [] = List.replicate 13 0 := by decide
theorem usesL_snoc (ts : List Ti) (x : Ti) {t : Nat} (ht : x.num = (t : Int)) (h : t < 13) : usesL (ts ++ [x]) = (usesL ts).set t ((usesL ts).getD t 0 + 1) := by
  refine List.ext_getElem (by simp [usesL]) fun i h1 h2 => ?_
  have hi : i < 13 := by simpa [usesL] using h1
  rw [List.getElem_set]
  have e : ∀ l : List Ti, ∀ hh, (usesL l)[i]'hh = ((l.countP (fun x => x.num == (i : Int)) : Nat) : Int) := by intro l hh; simp [usesL]
  rw [e, e, usesL_get _ h, List.countP_append]
  by_cases hti : t = i
  · subst hti; rw [if_pos rfl]; simp [ht]
  · rw [if_neg hti]
    have : ¬ x.num = (i : Int) := by omega
    simp [this]
theorem usesL_reverse (ts : List Ti) : usesL ts.reverse = usesL ts := by simp [usesL]
theorem sumK_reverse (ts : List Ti) : sumK ts.reverse = sumK ts := by
  induction ts with
  | nil => rfl
  | cons x ts ih => rw [List.reverse_cons, sumK_snoc, ih]; simp [sumK]; omega
def TiB (x : Ti) : Prop := 0 ≤ x.c ∧ x.c ≤ 4 ∧ 0 ≤ x.num ∧ x.num ≤ 12
theorem sumK_bd {ts : List Ti} (h : ∀ x ∈ ts, TiB x) : 0 ≤ sumK ts ∧ sumK ts ≤ 4 * ts.length := by
  induction ts with
  | nil => simp [sumK]
  | cons x ts ih =>
    have h1 := h x (by simp)
    have h2 := ih fun y hy => h y (by simp [hy])
    unfold TiB at h1
    simp only [sumK, List.map_cons, List.sum_cons, List.length_cons] at h2 ⊢
    omega
theorem ctN_bd (n : Nat) (nd : Nd) : 0 ≤ ctN n nd ∧ ctN n nd ≤ 4 := by
  have := cst_bd nd.op
  unfold ctN; split; · omega
  split <;> omega
theorem tOf_mt {es : List Nd} {k : Nat} {t : Int} {x : Ti} (h : tOf es (k : Int) t = some x) : ∃ n : Nat, ∃ hk : k < es.length, t = (n : Int) ∧ n < 13 ∧ mt es es[k] n = some x := by
  have hk : tokR es (k : Int) t = true := by unfold tokR; rw [h]; rfl
  obtain ⟨j, n, hj, e1, e2, hn, hok, hl, hm⟩ := tok_parts hk
  have : k = j := by omega
  subst this
  rw [h] at hm
  exact ⟨n, hj, e2, hn, hm.symm⟩
theorem tOf_num {es : List Nd} {k : Nat} {t : Int} {x : Ti} (h : tOf es (k : Int) t = some x) : x.num = t := by
  obtain ⟨n, hk, rfl, hn, hm⟩ := tOf_mt h
  exact mt_num hm
theorem tOf_bd {es : List Nd} {k : Nat} {t : Int} {x : Ti} (h : tOf es (k : Int) t = some x) : TiB x := by
  obtain ⟨n, hk, rfl, hn, hm⟩ := tOf_mt h
  have := ctN_bd n es[k]
  exact ⟨by rw [mt_c hm]; omega, by rw [mt_c hm]; omega, by rw [mt_num hm]; omega, by rw [mt_num hm]; omega⟩
theorem cvSt_bd {es : List Nd} {nums : List Int} : ∀ {j : Nat} {cs : List Int} {out : List Ti}, cvSt es nums j = some (cs, out) → ∀ x ∈ out, TiB x
  | 0, cs, out, h => by simp only [cvSt, Option.some.injEq, Prod.mk.injEq] at h; obtain ⟨rfl, rfl⟩ := h; intro x hx; simp at hx
  | j + 1, cs, out, h => by
    simp only [cvSt] at h
    rw [Option.bind_eq_some_iff] at h
    obtain ⟨⟨cs0, out0⟩, h0, h1⟩ := h
    have ih := cvSt_bd h0
    unfold cvNext at h1
    split at h1
    · rw [Option.map_eq_some_iff] at h1
      obtain ⟨x, hx0, hx⟩ := h1
      injection hx with e1 e2
      subst e1; subst e2
      intro y hy
      rcases List.mem_append.1 hy with hy | hy
      · exact ih y hy
      · simp at hy; subst hy; exact tOf_bd hx0
    · injection h1 with h1; injection h1 with e1 e2
      subst e1; subst e2
      exact ih
theorem tocR_bd (es : List Nd) (nums : List Int) : ∀ x ∈ (tocR es nums).getD [], TiB x := by
  unfold tocR
  split
  · cases hc : cvSt es nums es.length with
    | none => intro x hx; simp at hx
    | some s =>
      obtain ⟨cs, o⟩ := s
      simp only
      split
      · exact cvSt_bd hc
      · intro x hx; simp at hx
  · intro x hx; simp at hx
theorem tocR_len' (es : List Nd) (nums : List Int) : ((tocR es nums).getD []).length ≤ 24 := by
  cases h : tocR es nums with
  | none => simp
  | some out => exact tocR_len h
theorem sumK_take {ts : List Ti} (hb : ∀ x ∈ ts, TiB x) (hl : ts.length ≤ 24) {k : Nat} (hk : k < ts.length) : sumK (ts.take (k + 1)) = sumK (ts.take k) + ts[k].c ∧ 0 ≤ sumK (ts.take k) ∧ sumK (ts.take k) ≤ 96 ∧ TiB ts[k] := by
  have h1 := sumK_bd (ts := ts.take k) fun x hx => hb x (List.mem_of_mem_take hx)
  rw [List.length_take] at h1
  refine ⟨?_, h1.1, by omega, hb _ (List.getElem_mem _)⟩
  rw [List.take_succ_eq_append_getElem hk, sumK_snoc]
theorem usesL_take {ts : List Ti} (hb : ∀ x ∈ ts, TiB x) {k : Nat} (hk : k < ts.length) : usesL (ts.take (k + 1)) = (usesL (ts.take k)).set ts[k].num.toNat ((usesL (ts.take k)).getD ts[k].num.toNat 0 + 1) := by
  have h := hb _ (List.getElem_mem hk)
  unfold TiB at h
  rw [List.take_succ_eq_append_getElem hk]
  exact usesL_snoc _ _ (by omega) (by omega)
def ccostR (es : List Nd) (nums : List Int) : Int := sumK ((tocR es nums).getD [])
def tuseR (es : List Nd) (nums : List Int) : List Int := if (tocR es nums).isSome = true then usesL ((tocR es nums).getD []) else []
end Go.Proofs.Ytdleiondfhmjdaa

/- Prices, plain. -/
namespace Go.Proofs.Ytdleiondfhmjdaa
open Go.RowKit
set_option linter.unusedVariables false

def wcTo (b : Int) (cs ps : List Int) (k : Nat) : Int := (ps.take k).foldl (fun s p => wrap64 (s + cs.getD p.toNat 0)) b
theorem wcTo_zero (b : Int) (cs ps : List Int) : wcTo b cs ps 0 = b := rfl
theorem wcTo_succ (b : Int) (cs : List Int) {ps : List Int} {k : Nat} (h : k < ps.length) : wcTo b cs ps (k + 1) = wrap64 (wcTo b cs ps k + cs.getD ps[k].toNat 0) := by
  unfold wcTo; rw [List.take_succ_eq_append_getElem h, List.foldl_append]; rfl
/-- A tile's cost with its parts'. -/
def wcT (cs : List Int) (x : Ti) : Int := wcTo x.c cs x.ps x.ps.length
def pcStep (i j : Nat) (c : List Int) (x : Ti) : List Int := if j = 0 ∨ wcT c x < c.getD i 0 then c.set i (wcT c x) else c
def pcTo (i : Nat) (cs : List Int) (ts : List Ti) : Nat → List Int
  | 0 => cs
  | j + 1 => pcStep i j (pcTo i cs ts j) (ts.getD j noTi)
theorem pcTo_zero (i : Nat) (cs : List Int) (ts : List Ti) : pcTo i cs ts 0 = cs := rfl
theorem pcTo_succ (i : Nat) (cs : List Int) {ts : List Ti} {j : Nat} (h : j < ts.length) : pcTo i cs ts (j + 1) = pcStep i j (pcTo i cs ts j) ts[j] := by
  show pcStep i j (pcTo i cs ts j) (ts.getD j noTi) = _
  rw [List.getD_eq_getElem?_getD, List.getElem?_eq_getElem h]; rfl
theorem pcStep_len (i j : Nat) (c : List Int) (x : Ti) : (pcStep i j c x).length = c.length := by unfold pcStep; split <;> simp
theorem pcTo_len (i : Nat) (cs : List Int) (ts : List Ti) : ∀ j, (pcTo i cs ts j).length = cs.length
  | 0 => rfl
  | j + 1 => by show (pcStep _ _ _ _).length = _; rw [pcStep_len, pcTo_len]
theorem pcStep_set {i j : Nat} {c : List Int} {x : Ti} (h : j = 0 ∨ wcT c x < c.getD i 0) : pcStep i j c x = c.set i (wcT c x) := if_pos h
theorem pcStep_old {i j : Nat} {c : List Int} {x : Ti} (h : ¬ (j = 0 ∨ wcT c x < c.getD i 0)) : pcStep i j c x = c := if_neg h
def prTo (es : List Nd) : Nat → List Int
  | 0 => zeros es.length
  | k + 1 => pcTo k (prTo es k) (tsN es k) (tsN es k).length
theorem prTo_zero (es : List Nd) : prTo es 0 = zeros es.length := rfl
theorem prTo_next (es : List Nd) (k : Nat) : prTo es (k + 1) = pcTo k (prTo es k) (tsN es k) (tsN es k).length := rfl
theorem prTo_len (es : List Nd) : ∀ k, (prTo es k).length = es.length
  | 0 => by rw [prTo_zero]; simp [zeros]
  | k + 1 => by rw [prTo_next, pcTo_len, prTo_len]
def pricesR (es : List Nd) : List Int := if treeR es = true then prTo es es.length else []
theorem pricesR_len (es : List Nd) : (pricesR es).length ≤ 1048576 := by
  unfold pricesR; split
  · rename_i ht
    unfold treeR at ht; simp only [Bool.and_eq_true] at ht
    have := (good_len ht.1).2.1
    rw [prTo_len]; omega
  · simp
theorem tsN_c {es : List Nd} {k : Nat} (hk : k < es.length) {x : Ti} (hx : x ∈ tsN es k) : ∃ n : Nat, n < 13 ∧ x.num = (n : Int) ∧ x.c = ctN n es[k] ∧ mt es es[k] n = some x := by
  rw [tsN_eq hk] at hx
  obtain ⟨j, hj, rfl⟩ := List.getElem_of_mem hx
  obtain ⟨n, hn, he, hm⟩ := tilesL_at (es := es) es[k] hj
  exact ⟨n, hn, he, mt_c hm, hm⟩
end Go.Proofs.Ytdleiondfhmjdaa

/- A map of ints by ints. -/
namespace Go.Proofs.Ytdleiondfhmjdaa
open Go.RowKit
open Go.Maps (Keyed)
set_option linter.unusedVariables false
set_option maxRecDepth 100000

theorem mpKey : Keyed Try.prog 3 := Maps.int_keyed Try.underlying3
theorem mpZero (w : World) : (zeroValue 3).run Try.prog w = .ok (.int .i64 0) w := by kernel_rfl
/-- Block b is a map whose answers f tells. -/
def MP (w : World) (b n : Nat) (f : Int → Int) : Prop :=
  ∃ D : DataW Unit, w.ownsMap Try.prog 3 (plainElem Try.prog 3) b n D ∧ ∀ i : Int, 0 ≤ i → i ≤ 1048576 → D.atKey (.int .i64 i) (.lit (.int .i64 0)) = .lit (.int .i64 (f i))
theorem wf_i64 {a : Int} (h1 : -9223372036854775808 ≤ a) (h2 : a ≤ 9223372036854775807) : (Lit.int .i64 a).wf = true := by
  have e1 : IntKind.i64.min = -9223372036854775808 := by decide
  have e2 : IntKind.i64.max = 9223372036854775807 := by decide
  simp only [Lit.wf, e1, e2, Bool.and_eq_true, decide_eq_true_eq]; omega
theorem MP.made (w : World) : MP (w.alloc (.map #[] 0)) w.heap.size 0 (fun _ => 0) := ⟨.map [], w.ownsMap_made _ _ _, fun i _ _ => rfl⟩
theorem MP.lt {w : World} {b n : Nat} {f : Int → Int} (h : MP w b n f) : b < w.heap.size := h.choose_spec.1.lt
theorem MP.kept {w w' : World} {b n : Nat} {f : Int → Int} {row : Option Nat} (h : MP w b n f) (hg : w.grownBy w' row) (hne : some b ≠ row) : MP w' b n f := by
  obtain ⟨D, hD, hf⟩ := h
  exact ⟨D, hD.kept hg hne, hf⟩
theorem MP.next {w w' : World} {b n : Nat} {f : Int → Int} (h : MP w b n f) (hb : Below w.heap.size w w') : MP w' b n f := by
  obtain ⟨D, ⟨es, clock, hh, F, hs, hD⟩, hf⟩ := h
  exact ⟨D, ⟨es, clock, (hb.block b (Array.getElem?_eq_some_iff.1 hh).1).trans hh, F, hs, hD⟩, hf⟩
theorem MP.look {w : World} {b n : Nat} {f : Int → Int} (h : MP w b n f) {i : Int} (h0 : 0 ≤ i) (h1 : i ≤ 1048576) : (Instr.lookup 108 (.map (some b)) (.int .i64 i) false).run Try.prog w = .ok (.int .i64 (f i)) w := by
  obtain ⟨D, hD, hf⟩ := h
  obtain ⟨c, hrun, hat, _⟩ := hD.lookup_int mpKey Try.underlying108 Try.underlying3 (mpZero w) (Maps.keyOf_int_mk Try.underlying3 (wf_i64 (a := i) (by omega) (by omega)))
  rw [hf i h0 h1] at hat
  injection hat with hat
  injection hat with _ hat
  rw [hrun, hat]
theorem MP.put {w : World} {b n : Nat} {f : Int → Int} (h : MP w b n f) (hn : n < 1000000) {i v : Int} (h0 : 0 ≤ i) (h1 : i ≤ 1048576) (hv : (Lit.int .i64 v).wf = true) :
    ∃ w', (Instr.mapUpdate 108 (.map (some b)) (.int .i64 i) (.int .i64 v)).run Try.prog w = .ok () w' ∧ MP w' b (n + 1) (fun j => if j = i then v else f j) ∧ w.grownBy w' (some b) := by
  obtain ⟨D, hD, hf⟩ := h
  have hk := Maps.keyOf_int_mk Try.underlying3 (wf_i64 (a := i) (by omega) (by omega))
  obtain ⟨w', hrun, hown, hg⟩ := hD.update mpKey Try.underlying108 (by unfold maxLen; omega) hk (plainElem_int Try.underlying3 hv)
  refine ⟨w', hrun, ⟨_, hown, fun j j0 j1 => ?_⟩, hg⟩
  by_cases e : j = i
  · subst e
    dsimp only
    rw [if_pos rfl]
    exact Maps.atKey_put_same hD.isMap (mpKey.key hk) _ _
  · dsimp only
    rw [if_neg e]
    exact (Maps.atKey_put_other (fun h => e (by injection h)) _ _).trans (hf j j0 j1)
end Go.Proofs.Ytdleiondfhmjdaa

/- Blocks of bools, boxes of a node; a node moved. -/
namespace Go.Proofs.Ytdleiondfhmjdaa
open Go.RowKit
set_option linter.unusedVariables false
set_option maxRecDepth 100000

def boolCells (bs : List Bool) : Array Value := (bs.map Value.bool).toArray
/-- A block of bools known whole. -/
def BB (w : World) (g : Nat) (bs : List Bool) : Prop := w.heap[g]? = some (.cells (boolCells bs) 4 (0, 0))
theorem BB.lt {w : World} {g : Nat} {bs : List Bool} (h : BB w g bs) : g < w.heap.size := by
  rcases Nat.lt_or_ge g w.heap.size with hlt | hge
  · exact hlt
  · unfold BB at h; rw [Array.getElem?_eq_none hge] at h; cases h
theorem BB.cell {w : World} {g : Nat} {bs : List Bool} (h : BB w g bs) (i : Nat) (hi : i < bs.length) : w.cell? ⟨g, i, none⟩ = some (.bool (bs.getD i false)) := by
  rw [cell_of_row w g i _ 4 (0, 0) h, List.getD_eq_getElem?_getD, List.getElem?_eq_getElem hi]; simp [boolCells, hi]
theorem BB.frozen {w : World} {g : Nat} {bs : List Bool} (h : BB w g bs) (i : Nat) : w.frozen? ⟨g, i, none⟩ = false := by
  unfold BB at h; simp [World.frozen?, h]
theorem BB.set {w : World} {g : Nat} {bs : List Bool} (h : BB w g bs) (i : Nat) (x : Bool) : BB (w.setCell ⟨g, i, none⟩ (.bool x)) g (bs.set i x) := by
  unfold BB at h ⊢
  simp [World.setCell, Array.getElem?_modify, h, boolCells, List.map_set]
theorem BB.next {w w' : World} {g : Nat} {bs : List Bool} (h : BB w g bs) (hb : Below w.heap.size w w') : BB w' g bs := (hb.block g h.lt).trans h
theorem BB.other {w : World} {g q : Nat} {bs : List Bool} (h : BB w g bs) (j : Nat) (x : Value) (hne : q ≠ g) : BB (w.setCell ⟨q, j, none⟩ x) g bs :=
  (Below.heap_setCell w ⟨q, j, none⟩ x g (by simpa using fun e => hne e.symm)).trans h
theorem Try.infoBool : (Try.prog.info? 4).map (fun i => (i.zero, i.size, i.bytes)) = some (some (.bool false), 1, 1) := by kernel_rfl
theorem run_make_bools (n : Nat) (hn : n ≤ 1048576) (W : World) : (Instr.makeSlice 137 (.int .i64 (n : Int)) (.int .i64 (n : Int))).run Try.prog W = .ok (.slice (some ⟨W.heap.size, 0, none⟩) n n) (W.alloc (.cells (boolCells (List.replicate n false)) 4)) := by
  obtain ⟨i0, hi, hz0, hz1, hz2⟩ := info_parts Try.infoBool
  have h := run_make (P := Try.prog) W 137 4 i0 _ Try.underlying137 hi hz0 .i64 .i64 n n (by omega) (by omega) (by rw [hz2]; omega) (by omega)
  rw [h]
  simp only [Int.toNat_natCast, hz1, Nat.mul_one]
  refine congrArg (fun c => Result.ok (Value.slice (some ⟨W.heap.size, 0, none⟩) n n) (W.alloc (.cells c 4))) ?_
  apply Array.ext'
  rw [boolCells, List.map_replicate]
  exact toList_madeCells_one _ _

/-- One node in a box. -/
def XN (w : World) (g : Nat) (n : Nd) : Prop := w.heap[g]? = some (.cells #[.string n.op, .int .i64 n.a, .int .i64 n.b, .int .i64 n.v] 88 (0, 0))
theorem XN.lt {w : World} {g : Nat} {n : Nd} (h : XN w g n) : g < w.heap.size := by
  rcases Nat.lt_or_ge g w.heap.size with hlt | hge
  · exact hlt
  · unfold XN at h; rw [Array.getElem?_eq_none hge] at h; cases h
theorem XN.next {w w' : World} {g : Nat} {n : Nd} (h : XN w g n) (hb : Below w.heap.size w w') : XN w' g n := (hb.block g h.lt).trans h
theorem XN.cells {w : World} {g : Nat} {n : Nd} (h : XN w g n) : w.cell? ⟨g, 0, none⟩ = some (.string n.op) ∧ w.cell? ⟨g, 1, none⟩ = some (.int .i64 n.a) ∧ w.cell? ⟨g, 2, none⟩ = some (.int .i64 n.b) ∧ w.cell? ⟨g, 3, none⟩ = some (.int .i64 n.v) := by
  have c := fun i => cell_of_row w g i _ 88 (0, 0) h
  exact ⟨c 0, c 1, c 2, c 3⟩
theorem XN.fz {w : World} {g : Nat} {n : Nd} (h : XN w g n) (i : Nat) : w.frozen? ⟨g, i, none⟩ = false := by
  unfold XN at h; simp [World.frozen?, h]
theorem XN.setA {w : World} {g : Nat} {n : Nd} (h : XN w g n) (x : Int) : XN (w.setCell ⟨g, 1, none⟩ (.int .i64 x)) g ⟨n.op, x, n.b, n.v⟩ := by
  unfold XN at h ⊢
  simp [World.setCell, Array.getElem?_modify, h]
theorem XN.setB {w : World} {g : Nat} {n : Nd} (h : XN w g n) (x : Int) : XN (w.setCell ⟨g, 2, none⟩ (.int .i64 x)) g ⟨n.op, n.a, x, n.v⟩ := by
  unfold XN at h ⊢
  simp [World.setCell, Array.getElem?_modify, h]
theorem XN.other {w : World} {g q : Nat} {n : Nd} (h : XN w g n) (j : Nat) (x : Value) (hne : q ≠ g) : XN (w.setCell ⟨q, j, none⟩ x) g n :=
  (Below.heap_setCell w ⟨q, j, none⟩ x g (by simpa using fun e => hne e.symm)).trans h
def put4 (w : World) (g : Nat) (n : Nd) : World := (((w.setCell ⟨g, 0, none⟩ (.string n.op)).setCell ⟨g, 1, none⟩ (.int .i64 n.a)).setCell ⟨g, 2, none⟩ (.int .i64 n.b)).setCell ⟨g, 3, none⟩ (.int .i64 n.v)
theorem XN.put4 {w : World} {g : Nat} {n : Nd} (h : XN w g n) (m : Nd) : XN (put4 w g m) g m := by
  unfold XN Go.Proofs.Ytdleiondfhmjdaa.put4 at *
  simp [World.setCell, Array.getElem?_modify, h]
theorem below_put4 {w w' : World} {B g : Nat} (h : Below B w w') (hg : B ≤ g) (n : Nd) : Below B w (put4 w' g n) :=
  (((h.setCell (p := ⟨g, 0, none⟩) hg _).setCell (p := ⟨g, 1, none⟩) hg _).setCell (p := ⟨g, 2, none⟩) hg _).setCell (p := ⟨g, 3, none⟩) hg _
theorem xn_new (w : World) (n : Nd) : XN (w.alloc (.cells #[.string n.op, .int .i64 n.a, .int .i64 n.b, .int .i64 n.v] 88)) w.heap.size n := heap_alloc_new w _
/-- A function whose result is a node in a cell. -/
theorem node_ret {fn : Func} {Q : Ending → World → Prop} {tmps : Array Value} {w : World} {g : Nat} {n : Nd} {s : Tmp} (hr : fn.results = #[.cell s 88]) (hs : tmps.getD s undef = .pointer (some ⟨g, 0, none⟩))
    (h : XN w g n) (hq : Q (.returned (.agg #[.string n.op, .int .i64 n.a, .int .i64 n.b, .int .i64 n.v])) w) : bodyPost Try.prog fn Q .ret ⟨tmps, []⟩ w := by
  obtain ⟨q0, q1, q2, q3⟩ := h.cells
  refine bodyPost_ret (v := .agg #[.string n.op, .int .i64 n.a, .int .i64 n.b, .int .i64 n.v]) ?_ rfl hq
  have hs' : tmps[s]?.getD undef = .pointer (some ⟨g, 0, none⟩) := by simpa using hs
  simp [results, hr, hs', go_sem, q0, q1, q2, q3]
end Go.Proofs.Ytdleiondfhmjdaa

/- The state of a cover laid, place by place: plain. -/
namespace Go.Proofs.Ytdleiondfhmjdaa
open Go.RowKit
set_option linter.unusedVariables false

theorem getDI_set {xs : List Int} (i j : Nat) (x : Int) (hi : i < xs.length) : (xs.set i x).getD j 0 = if i = j then x else xs.getD j 0 := by
  rw [List.getD_eq_getElem?_getD, List.getD_eq_getElem?_getD, List.getElem?_set]
  split
  · first | rfl | (rw [if_pos hi]; rfl)
  · rfl
theorem foldSet_get : ∀ (ps : List Int) (xs : List Int) (i : Nat), (∀ p ∈ ps, p.toNat < xs.length) → (ps.foldl (fun c p => c.set p.toNat (-2)) xs).getD i 0 = if (∃ p ∈ ps, p.toNat = i) then -2 else xs.getD i 0
  | [], xs, i, _ => by simp
  | p :: ps, xs, i, h => by
    rw [List.foldl_cons, foldSet_get ps (xs.set p.toNat (-2)) i (fun q hq => by rw [List.length_set]; exact h q (by simp [hq])), getDI_set _ _ _ (h p (by simp))]
    by_cases h1 : ∃ q ∈ ps, q.toNat = i
    · rw [if_pos h1, if_pos (by obtain ⟨q, hq, e⟩ := h1; exact ⟨q, by simp [hq], e⟩)]
    · rw [if_neg h1]
      by_cases h2 : p.toNat = i
      · rw [if_pos h2, if_pos ⟨p, by simp, h2⟩]
      · rw [if_neg h2, if_neg]
        rintro ⟨q, hq, e⟩
        rcases List.mem_cons.1 hq with rfl | hq
        · exact h2 e
        · exact h1 ⟨q, hq, e⟩
theorem layL_get {cs : List Int} {k : Nat} {x : Ti} (hk : k < cs.length) (hp : ∀ p ∈ x.ps, 0 ≤ p ∧ p < (k : Int)) (i : Nat) : (layL cs k x).getD i 0 = if (∃ p ∈ x.ps, p.toNat = i) then -2 else if k = i then x.num else cs.getD i 0 := by
  unfold layL layTo
  rw [List.take_length, foldSet_get _ _ _ (fun p h => by rw [List.length_set]; have := hp p h; omega), getDI_set _ _ _ hk]
theorem layL_ge {cs : List Int} {k : Nat} {x : Ti} (hk : k < cs.length) (hp : ∀ p ∈ x.ps, 0 ≤ p ∧ p < (k : Int)) {i : Nat} (h : k < i) : (layL cs k x).getD i 0 = cs.getD i 0 := by
  rw [layL_get hk hp, if_neg, if_neg (by omega)]
  rintro ⟨p, h1, e⟩
  have := hp p h1
  omega
theorem layL_at {cs : List Int} {k : Nat} {x : Ti} (hk : k < cs.length) (hp : ∀ p ∈ x.ps, 0 ≤ p ∧ p < (k : Int)) : (layL cs k x).getD k 0 = x.num := by
  rw [layL_get hk hp, if_neg, if_pos rfl]
  rintro ⟨p, h1, e⟩
  have := hp p h1
  omega
theorem layL_lt {cs : List Int} {k : Nat} {x : Ti} (hk : k < cs.length) (hp : ∀ p ∈ x.ps, 0 ≤ p ∧ p < (k : Int)) {i : Nat} (h : i < k) : (layL cs k x).getD i 0 = -2 ∨ (layL cs k x).getD i 0 = cs.getD i 0 := by
  rw [layL_get hk hp]
  split
  · exact .inl rfl
  · rw [if_neg (by omega)]; exact .inr rfl
/-- The tile of a place. -/
def tD (es : List Nd) (nums : List Int) (i : Nat) : Ti := (tOf es (i : Int) (nums.getD i 0)).getD noTi
structure CvInv (es : List Nd) (nums : List Int) (j : Nat) (cs : List Int) (out : List Ti) : Prop where
  lo : ∀ i, i < es.length - j → cs.getD i 0 = -1 ∨ cs.getD i 0 = -2
  hi : ∀ i, es.length - j ≤ i → i < es.length → cs.getD i 0 = -1 ∨ (cs.getD i 0 = nums.getD i 0 ∧ ∃ x, tOf es (i : Int) (nums.getD i 0) = some x)
  out : out.reverse = ((List.range' (es.length - j) j).filter (fun i => decide (0 ≤ cs.getD i 0))).map (tD es nums)
theorem cvSt_inv {es : List Nd} {nums : List Int} : ∀ {j : Nat} {cs : List Int} {out : List Ti}, j ≤ es.length → cvSt es nums j = some (cs, out) → CvInv es nums j cs out
  | 0, cs, out, hj, h => by
    simp only [cvSt, Option.some.injEq, Prod.mk.injEq] at h
    obtain ⟨rfl, rfl⟩ := h
    refine ⟨fun i hi => ?_, fun i h1 h2 => by omega, by simp⟩
    unfold opn
    rw [getDI_set _ _ _ (by simp; omega)]
    split
    · exact .inr rfl
    · left; rw [List.getD_eq_getElem?_getD, List.getElem?_replicate, if_pos (by omega)]; rfl
  | j + 1, cs, out, hj, h => by
    simp only [cvSt] at h
    rw [Option.bind_eq_some_iff] at h
    obtain ⟨⟨cs0, out0⟩, h0, h1⟩ := h
    have ih := cvSt_inv (by omega) h0
    have hl := (cvSt_len h0).1
    obtain ⟨k, hk⟩ : ∃ k, k = es.length - 1 - j := ⟨_, rfl⟩
    rw [← hk] at h1
    have hkn : k < cs0.length := by omega
    have e1 : es.length - (j + 1) = k := by omega
    have e2 : es.length - j = k + 1 := by omega
    have ih1 := ih.lo; have ih2 := ih.hi; have ih3 := ih.out
    rw [e2] at ih1 ih2 ih3
    unfold cvNext at h1
    split at h1
    · rename_i hc
      rw [Option.map_eq_some_iff] at h1
      obtain ⟨x, hx0, hx⟩ := h1
      injection hx with e3 e4
      subst e3; subst e4
      have hp := (tOf_ps hx0).1
      have hnum := tOf_num hx0
      have hb := tOf_bd hx0
      unfold TiB at hb
      have hD : tD es nums k = x := by unfold tD; rw [hx0]; rfl
      refine ⟨?_, ?_, ?_⟩
      · rw [e1]
        intro i hi
        rcases layL_lt hkn hp hi with e | e
        · exact .inr e
        · rw [e]; exact ih1 i (by omega)
      · rw [e1]
        intro i h1 h2
        rcases Nat.lt_or_ge k i with h | h
        · rw [layL_ge hkn hp h]; exact ih2 i (by omega) h2
        · obtain rfl : i = k := by omega
          rw [layL_at hkn hp]
          exact .inr ⟨hnum, x, hx0⟩
      · rw [e1, List.range'_succ, List.filter_cons, if_pos (by rw [layL_at hkn hp]; simp; omega), List.map_cons, hD, List.reverse_append, List.reverse_singleton, List.singleton_append, ih3]
        congr 2
        refine List.filter_congr fun i hi => ?_
        rw [layL_ge hkn hp (by have := (List.mem_range'_1.1 hi).1; omega)]
    · rename_i hc
      injection h1 with h1; injection h1 with e3 e4
      subst e3; subst e4
      have hm1 : cs0.getD k 0 = -1 := (ih1 k (by omega)).resolve_right hc
      refine ⟨?_, ?_, ?_⟩
      · rw [e1]; exact fun i hi => ih1 i (by omega)
      · rw [e1]
        intro i h1 h2
        rcases Nat.lt_or_ge k i with h | h
        · exact ih2 i (by omega) h2
        · obtain rfl : i = k := by omega
          exact .inl hm1
      · rw [e1, List.range'_succ, List.filter_cons, if_neg (by rw [hm1]; simp), ih3]
/-- The tiles of the places below k, in order. -/
def mst (es : List Nd) (nums : List Int) (k : Nat) : List Ti := ((List.range k).filter (fun i => decide (0 ≤ nums.getD i 0))).map (tD es nums)
theorem mst_zero (es : List Nd) (nums : List Int) : mst es nums 0 = [] := rfl
theorem mst_skip {es : List Nd} {nums : List Int} {k : Nat} (h : ¬ 0 ≤ nums.getD k 0) : mst es nums (k + 1) = mst es nums k := by
  unfold mst; rw [List.range_succ, List.filter_append, List.filter_cons, if_neg (by simpa using h)]; simp
theorem mst_take {es : List Nd} {nums : List Int} {k : Nat} (h : 0 ≤ nums.getD k 0) : mst es nums (k + 1) = mst es nums k ++ [tD es nums k] := by
  unfold mst; rw [List.range_succ, List.filter_append, List.filter_cons, if_pos (by simpa using h)]; simp
theorem mst_len (es : List Nd) (nums : List Int) (k : Nat) : (mst es nums k).length ≤ k := by
  unfold mst; rw [List.length_map]; exact Nat.le_trans (List.length_filter_le _ _) (by simp)
/-- The bits of the model. -/
def ndB (cs : List Int) : List Bool := cs.map (fun v => v != -1)
theorem ndB_len (cs : List Int) : (ndB cs).length = cs.length := by simp [ndB]
theorem ndB_get {cs : List Int} {i : Nat} (h : i < cs.length) : (ndB cs).getD i false = (cs.getD i 0 != -1) := by
  rw [List.getD_eq_getElem?_getD, List.getD_eq_getElem?_getD, List.getElem?_eq_getElem h, List.getElem?_eq_getElem (by rw [ndB_len]; exact h)]; simp [ndB]
theorem ndB_set (cs : List Int) (i : Nat) (x : Int) : ndB (cs.set i x) = (ndB cs).set i (x != -1) := by simp [ndB, List.map_set]
theorem ndB_opn {n : Nat} : ndB (opn n) = (List.replicate n false).set (n - 1) true := by
  unfold opn; rw [ndB_set]; simp [ndB]
theorem ndB_lay0 {cs : List Int} {k : Nat} {x : Int} (hk : k < cs.length) (h : cs.getD k 0 = -2) (hx : 0 ≤ x) : ndB (cs.set k x) = ndB cs := by
  rw [ndB_set, show (x != -1) = true by simp; omega]
  refine List.ext_getElem (by simp) fun i h1 h2 => ?_
  rw [List.getElem_set]
  split
  · rename_i e
    subst e
    have := ndB_get hk
    rw [h, List.getD_eq_getElem?_getD, List.getElem?_eq_getElem h2] at this
    exact this.symm
  · rfl
/-- A state is the numbers where the places left alone bear none. -/
theorem cv_eq {es : List Nd} {nums cs : List Int} {out : List Ti} (hn : nums.length = es.length) (h : cvSt es nums es.length = some (cs, out)) : cs = nums ↔ ∀ i, i < es.length → cs.getD i 0 = -1 → nums.getD i 0 = -1 := by
  have hI := (cvSt_inv (Nat.le_refl _) h).hi
  have hl := (cvSt_len h).1
  rw [Nat.sub_self] at hI
  constructor
  · rintro rfl i _ e; exact e
  · intro ha
    refine List.ext_getElem (by omega) fun i h1 h2 => ?_
    rw [← getD_get h1, ← getD_get h2]
    rcases hI i (Nat.zero_le _) (by omega) with e | e
    · rw [e, ha i (by omega) e]
    · exact e.1
theorem tocR_some {es : List Nd} {nums : List Int} {out : List Ti} (h : tocR es nums = some out) : treeR es = true ∧ nums.length = es.length ∧ cvSt es nums es.length = some (nums, out) := by
  unfold tocR at h
  split at h
  · rename_i ht
    cases hc : cvSt es nums es.length with
    | none => rw [hc] at h; cases h
    | some s =>
      obtain ⟨cs, o⟩ := s
      rw [hc] at h
      simp only at h
      split at h
      · rename_i e
        injection h with h; subst h; subst e
        exact ⟨ht.1, ht.2, rfl⟩
      · cases h
  · cases h
theorem tocR_mst {es : List Nd} {nums : List Int} {out : List Ti} (h : tocR es nums = some out) : out.reverse = mst es nums es.length ∧ ∀ i, i < es.length → 0 ≤ nums.getD i 0 → ∃ x, tOf es (i : Int) (nums.getD i 0) = some x := by
  obtain ⟨ht, hn, hc⟩ := tocR_some h
  have hI := cvSt_inv (Nat.le_refl _) hc
  have h3 := hI.out
  have h2 := hI.hi
  rw [Nat.sub_self] at h2 h3
  refine ⟨by rw [h3, mst, List.range_eq_range'], fun i hi h0 => ?_⟩
  rcases h2 i (Nat.zero_le _) hi with e | e
  · omega
  · exact e.2
theorem tocR_sum {es : List Nd} {nums : List Int} {out : List Ti} (h : tocR es nums = some out) : ccostR es nums = sumK (mst es nums es.length) := by
  unfold ccostR; rw [h, ← (tocR_mst h).1, sumK_reverse]; rfl
theorem tocR_uses {es : List Nd} {nums : List Int} {out : List Ti} (h : tocR es nums = some out) : tuseR es nums = usesL (mst es nums es.length) := by
  unfold tuseR; rw [h, ← (tocR_mst h).1, usesL_reverse]; rfl
theorem tocR_iff {es : List Nd} {nums : List Int} (ht : treeR es = true) (hn : nums.length = es.length) {cs : List Int} {out : List Ti} (h : cvSt es nums es.length = some (cs, out)) : (tocR es nums).isSome = decide (cs = nums) := by
  unfold tocR
  rw [if_pos ⟨ht, hn⟩, h]
  simp only
  split
  · rename_i e; rw [decide_eq_true e]; rfl
  · rename_i e; rw [decide_eq_false e]; rfl
end Go.Proofs.Ytdleiondfhmjdaa

/- Prices of the program. -/
namespace Go.Proofs.Ytdleiondfhmjdaa
open Go.RowKit
set_option linter.unusedVariables false
set_option maxRecDepth 100000

theorem wcTo_congr (b : Int) (cs ps : List Int) (f : Int → Int) (h : ∀ p ∈ ps, f p = cs.getD p.toNat 0) : ∀ k, (ps.take k).foldl (fun s p => wrap64 (s + f p)) b = wcTo b cs ps k := by
  intro k
  unfold wcTo
  have h' : ∀ p ∈ ps.take k, f p = cs.getD p.toNat 0 := fun p hp => h p (List.mem_of_mem_take hp)
  clear h
  generalize ps.take k = l at *
  induction l generalizing b with
  | nil => rfl
  | cons p l ih => rw [List.foldl_cons, List.foldl_cons, h' p (by simp)]; exact ih _ fun q hq => h' q (by simp [hq])
set_option maxHeartbeats 4000000 in
theorem costWith_any (L B b m n : Nat) (f : Int → Int) (cs : List Int) (r : Rt) (x : Ti) (w : World) (hr : RtOk w L B r x) (hB : B ≤ w.heap.size) (hp2 : x.ps.length ≤ 2) (hps : ∀ p ∈ x.ps, 0 ≤ p ∧ p < (n : Int)) (hn : n ≤ 24) (hm : MP w b m f) (hf : ∀ k : Nat, k < n → f (k : Int) = cs.getD k 0) :
    Calls Try.prog 126 #[.agg #[.int .i64 r.num, r.p, r.q, .int .i64 r.c], .map (some b)] w fun e w' => e = .returned (.int .i64 (wcT cs x)) ∧ Below w.heap.size w w' := by
  obtain ⟨PA, pc, QA, qc, rfl, hp, hq⟩ := hr.form
  have hR : Hid (wcT cs x = wcTo x.c cs x.ps x.ps.length) := rfl
  have hM := Lib.hid hm
  have hP := Lib.hid hp
  have hPs := Lib.hid hps
  have hF := Lib.hid hf
  clear hr hp hq hm hps hf
  generalize wcT cs x = R at *
  obtain ⟨xn, ps, ins, xc⟩ := x
  dsimp only at hR hP hPs hp2 ⊢
  go_enter Try.func126, Try.ntmps126
  have ba := (Below.refl w.heap.size w).alloc (Nat.le_refl _) (.cells #[.int .i64 xn, .slice PA ps.length pc, .slice QA ins.length qc, .int .i64 xc] 91)
  have hM1 := Lib.hid (hM.out.next ba)
  have hP1 := Lib.hid ((hP.out.below ba hB).rs)
  have hba := Lib.hid ba
  clear ba
  go_wp2_with (fail)
  generalize w.alloc (.cells #[.int .i64 xn, .slice PA ps.length pc, .slice QA ins.length qc, .int .i64 xc] 91) = W1 at *
  go_loop [5, 13] (fun cq q => ∃ t : Nat, t ≤ ps.length ∧ q = .int .i64 t ∧ cq = .int .i64 (wcTo xc cs ps t)) (fun _ q => ps.length - (intOf q).toNat)
  case atStart => exact ⟨0, Nat.zero_le _, rfl, rfl⟩
  case round =>
    obtain ⟨t, ht, rfl, rfl⟩ := hrel
    by_cases hltt : t < ps.length
    · obtain ⟨pb, po, rfl, _, hcc⟩ := hP1.out (by omega)
      have y1 := hcc t hltt
      have hpt := hPs.out ps[t] (List.getElem_mem _)
      have hS := Lib.hid (wcTo_succ xc cs hltt)
      clear hcc
      generalize ps[t] = pp at *
      obtain ⟨pn, rfl⟩ := Int.eq_ofNat_of_zero_le hpt.1
      have hl := hM1.out.look (i := (pn : Int)) (by omega) (by omega)
      rw [hF.out pn (by omega)] at hl
      rw [Int.toNat_natCast] at hS
      generalize cs.getD pn 0 = cp at *
      generalize wcTo xc cs ps t = wt at *
      go_wp2
      go_round
      case rel => exact ⟨t + 1, by omega, by go_num, by rw [hS.out]⟩
      case measure => simp [intOf]; omega
    · obtain rfl : t = ps.length := by omega
      generalize wcTo xc cs ps ps.length = wt at *
      go_wp2
      go_ret
      exact ⟨by rw [hR.out]; rfl, hba.out⟩

theorem wcTo_rng {b : Int} (cs ps : List Int) (h0 : 0 ≤ b) (h1 : b ≤ 4) : ∀ k, k ≤ ps.length → -9223372036854775808 ≤ wcTo b cs ps k ∧ wcTo b cs ps k ≤ 9223372036854775807
  | 0, _ => by rw [wcTo_zero]; omega
  | k + 1, h => by rw [wcTo_succ b cs (by omega : k < ps.length)]; unfold wrap64; omega
theorem wcT_wf (cs : List Int) {x : Ti} (h0 : 0 ≤ x.c) (h1 : x.c ≤ 4) : (Lit.int .i64 (wcT cs x)).wf = true := by
  have := wcTo_rng cs x.ps h0 h1 _ (Nat.le_refl _)
  exact wf_i64 this.1 this.2
theorem tsN_cb {es : List Nd} {k : Nat} (hk : k < es.length) : ∀ x ∈ tsN es k, 0 ≤ x.c ∧ x.c ≤ 4 := by
  intro x hx
  obtain ⟨n, _, _, hc, _⟩ := tsN_c hk hx
  rw [hc]; exact ctN_bd _ _
set_option maxHeartbeats 8000000 in
theorem leastCosts_any (L B : Nat) (A : Option Addr) (c : Nat) (es : List Nd) (w : World) (ht : treeR es = true) (hes : NS w L B A es) (hB : B ≤ w.heap.size) :
    Calls Try.prog 88 #[.slice A es.length c] w (fun e w' => ∃ b m f, e = .returned (.map (some b)) ∧ MP w' b m f ∧ (∀ k : Nat, k < es.length → f (k : Int) = (prTo es es.length).getD k 0) ∧ Below w.heap.size w w') := by
  have hg : good es = true := by unfold treeR at ht; simp only [Bool.and_eq_true] at ht; exact ht.1
  obtain ⟨hl1, hl24, hok⟩ := good_len hg
  have H2 := Lib.hid fun (k : Nat) (hk : k < es.length) (W : World) (hW : Below w.heap.size w W) => (show Calls Try.prog 83 #[.slice A es.length c, .int .i64 (k : Int)] W (TilesAre W (tsN es k)) from by rw [tsN_eq hk]; exact tilesOf_w L B A c es k hk W (hes.below hW hB) (Nat.le_trans hB hW.size) hl24 hok)
  have hPs := Lib.hid fun (k : Nat) (hk : k < es.length) => tsN_ps hok hk
  have hP2 := Lib.hid fun (k : Nat) => @tsN_ps2 es k
  have hCs := Lib.hid fun (k : Nat) (hk : k < es.length) => tsN_cb hk
  have hLn := Lib.hid fun (k : Nat) => (show (tsN es k).length ≤ 13 from tilesL_len _ _)
  have hSc := Lib.hid (prTo_next es)
  have hCl := Lib.hid (prTo_len es)
  have h00 := Lib.hid (prTo_zero es)
  clear ht hg hes hB hok
  generalize tsN es = TS at *
  generalize prTo es = CC at *
  generalize es.length = n at *
  have hmk := fun w => run_makeMap (P := Try.prog) 108 w
  have hM0 := Lib.hid (MP.made w)
  have b1 := Lib.hid ((Below.refl w.heap.size w).alloc (Nat.le_refl _) (.map #[] 0))
  go_enter Try.func88, Try.ntmps88
  go_wp2_with (fail)
  obtain ⟨b, hb0⟩ : ∃ b, b = w.heap.size := ⟨_, rfl⟩
  rw [← hb0]
  rw [← hb0] at hM0
  have hgw := Lib.hid (show w.heap.size ≤ b by omega)
  clear hb0 hmk
  generalize w.alloc (.map #[] 0) = W1 at *
  go_loopw [11] (fun q wr => ∃ k : Nat, k ≤ n ∧ q = .int .i64 k ∧ (∃ mm f, mm ≤ 14 * k ∧ MP wr b mm f ∧ ∀ i : Nat, i < n → f (i : Int) = (CC k).getD i 0) ∧ Below w.heap.size w wr) (fun q _ => n - (intOf q).toNat)
  case atStart => exact ⟨0, Nat.zero_le _, rfl, ⟨0, _, Nat.zero_le _, hM0.out, fun i hi => by rw [h00.out]; simp [zeros, hi]⟩, b1.out⟩
  case round =>
    obtain ⟨k, hk, rfl, ⟨mm, f, hmm, hmp, hff⟩, hbel⟩ := hrel
    have hMP := Lib.hid hmp
    have hFF := Lib.hid hff
    have hBL := Lib.hid hbel
    have hgl := hmp.lt
    clear hmp hbel hff
    by_cases hlt : k < n
    · obtain ⟨wo, hwo⟩ : ∃ wo : World, wo = wr := ⟨_, rfl⟩
      rw [← hwo] at hMP hBL hgl ⊢
      clear hwo
      have hki : (k : Int) < (n : Int) := by omega
      have hC := Lib.hid (H2.out k hlt)
      have hSk := Lib.hid (hSc.out k)
      have hps := Lib.hid (hPs.out k hlt)
      have hps2 := Lib.hid (hP2.out k)
      have hcs := Lib.hid (hCs.out k hlt)
      have hlk := hLn.out k
      have hcl := Lib.hid (hCl.out k)
      generalize TS k = ts at *
      generalize hck : CC (k + 1) = ck' at *
      have hck2 := Lib.hid hck
      clear hck
      generalize CC k = cs at *
      go_wp2_with (fail)
      refine (hC.out _ hBL.out).mono ?_
      rintro e w2 ⟨TA, tc, rs, rfl, hrs, hall, hb2⟩
      have hRS := Lib.hid hrs
      have hAL := Lib.hid hall
      have hB2 := Lib.hid (hBL.out.trans (hb2.mono hBL.out.size))
      have hM2 := Lib.hid (hMP.out.next hb2)
      have hg2 := Nat.lt_of_lt_of_le hgl hb2.size
      clear hrs hall hb2
      go_wp2_with (fail)
      go_loopw [18] (fun q wr => ∃ j : Nat, j ≤ ts.length ∧ q = .int .i64 j ∧ (∃ mm f, mm ≤ 14 * k + j ∧ MP wr b mm f ∧ ∀ i : Nat, i < n → f (i : Int) = (pcTo k cs ts j).getD i 0) ∧ Chg b (b + 1) w2 wr) (fun q _ => ts.length - (intOf q).toNat)
      case atStart => exact ⟨0, Nat.zero_le _, rfl, ⟨mm, f, hmm, hM2.out, hFF.out⟩, Chg.refl _ _ _⟩
      case round =>
        obtain ⟨j, hj, rfl, ⟨mj, fj, hmj, hmp, hff⟩, hch⟩ := hrel
        have hMJ := Lib.hid hmp
        have hFJ := Lib.hid hff
        have hCJ := Lib.hid hch
        have hgr := hmp.lt
        clear hmp hch hff
        by_cases hltj : j < ts.length
        · have hjr : j < rs.length := by rw [hAL.out.1]; exact hltj
          have hok4 := (hAL.out.2 j hjr hltj).chg hCJ.out (.inr hgl)
          obtain ⟨tb, to', rfl, ⟨_, htb⟩, hcc⟩ := (hRS.out.chg hCJ.out (Nat.le_refl _) (.inr hgl)) (by omega)
          have x1 := hcc j hjr 0 _ rfl
          have x2 := hcc j hjr 1 _ rfl
          have x3 := hcc j hjr 2 _ rfl
          have x4 := hcc j hjr 3 _ rfl
          simp only [Nat.add_zero] at x1
          have hpj := hps.out ts[j] (List.getElem_mem _)
          have hpl := hps2.out ts[j] (List.getElem_mem _)
          have hcb := hcs.out ts[j] (List.getElem_mem _)
          have hwf := Lib.hid (wcT_wf (pcTo k cs ts j) hcb.1 hcb.2)
          have hji : (j : Int) < (ts.length : Int) := by omega
          have hjh := Lib.hid hltj
          have hcj := Lib.hid (pcTo_len k cs ts j)
          have hSj := Lib.hid (pcTo_succ k cs hltj)
          have hst1 := Lib.hid (pcStep_set (i := k) (j := j) (c := pcTo k cs ts j) (x := ts[j]))
          have hst2 := Lib.hid (pcStep_old (i := k) (j := j) (c := pcTo k cs ts j) (x := ts[j]))
          have hw2r := hCJ.out.size
          generalize rs[j] = r at *
          obtain ⟨PA, pc, QA, qc, rfl, hp, hq⟩ := hok4.form
          have hbx := (Below.refl wr.heap.size wr).alloc (Nat.le_refl _) (.cells #[.int .i64 (ts[j]).num, .slice PA (ts[j]).ps.length pc, .slice QA (ts[j]).ins.length qc, .int .i64 (ts[j]).c] 91)
          have hCW := Lib.hid (costWith_any _ _ b mj n fj (pcTo k cs ts j) _ ts[j] _ (hok4.below hbx hCJ.out.size) (Nat.le_trans hCJ.out.size hbx.size) hpl (fun p hp => ⟨(hpj p hp).1, by have := (hpj p hp).2; omega⟩) hl24 (hMJ.out.next hbx) hFJ.out)
          have hMx := Lib.hid (hMJ.out.next hbx)
          have hCx := Lib.hid (hCJ.out.trans (Chg.ofBelow hbx))
          dsimp only at x1 x2 x3 x4 hCW
          clear hcc hok4 hp hq hbx hpj hpl hcb
          generalize wcT (pcTo k cs ts j) ts[j] = wc at *
          generalize hcn : pcTo k cs ts (j + 1) = cn' at *
          have hcn2 := Lib.hid hcn
          clear hcn
          generalize pcTo k cs ts j = cj at *
          generalize ts[j] = x at *
          obtain ⟨xn, ps, ins, xc⟩ := x
          dsimp only at x1 x2 x3 x4 hCW hCx hMx
          go_wp2_with (fail)
          refine hCW.out.mono ?_
          rintro e w3 ⟨rfl, hb3⟩
          have hM3 := hMx.out.next hb3
          have hlk2 := hM3.look (i := (k : Int)) (by omega) (by omega)
          rw [hFJ.out k hlt] at hlk2
          obtain ⟨w4, hrun, hm4, hg4⟩ := hM3.put (by omega : mj < 1000000) (i := (k : Int)) (by omega) (by omega) hwf.out
          have hM3h := Lib.hid hM3
          have hM4 := Lib.hid hm4
          have hC3 := Lib.hid (hCx.out.trans (Chg.ofBelow hb3))
          have hC4 := Lib.hid (hC3.out.trans (Chg.ofGrown hg4 (fun q e => by cases e; exact ⟨Nat.le_refl _, Nat.lt_succ_self _⟩)))
          have hcl2 : k < cj.length := by rw [hcj.out, hcl.out]; exact hlt
          have hF4 : Hid (∀ i : Nat, i < n → (fun q : Int => if q = (k : Int) then wc else fj q) (i : Int) = (cj.set k wc).getD i 0) := fun i hi => by
            dsimp only
            rw [getDI_set _ _ _ hcl2]
            by_cases e : k = i
            · subst e; rw [if_pos rfl, if_pos rfl]
            · rw [if_neg (by omega), if_neg e]; exact hFJ.out i hi
          clear hM3 hm4 hg4 hb3 hCW hMx hCx hcl2 x1 x2 x3 x4 hwf
          by_cases hj0 : j = 0
          · subst hj0
            have hs := Lib.hid (hst1.out (.inl rfl))
            clear hst1 hst2
            generalize cj.getD k 0 = old at *
            go_wp2
            have := hjh.out
            exact ⟨⟨1, by omega, by simp, ⟨mj + 1, _, by omega, hM4.out, by rw [hcn2.out, hSj.out, hs.out]; exact hF4.out⟩, hC4.out⟩, by simp [intOf]; omega⟩
          · have hji0 : ¬ (j : Int) = 0 := by omega
            have hjb : ((j : Int) == 0) = false := by simpa using hji0
            by_cases hq : wc < cj.getD k 0
            · have hs := Lib.hid (hst1.out (.inr hq))
              clear hst1 hst2
              generalize cj.getD k 0 = old at *
              go_wp2
              have := hjh.out
              exact ⟨⟨j + 1, hjh.out, by go_num, ⟨mj + 1, _, by omega, hM4.out, by rw [hcn2.out, hSj.out, hs.out]; exact hF4.out⟩, hC4.out⟩, by simp [intOf]; omega⟩
            · have hs := Lib.hid (hst2.out (fun h => h.elim hj0 hq))
              clear hst1 hst2
              generalize cj.getD k 0 = old at *
              go_wp2
              have := hjh.out
              exact ⟨⟨j + 1, hjh.out, by go_num, ⟨mj, _, by omega, hM3h.out, by rw [hcn2.out, hSj.out, hs.out]; exact hFJ.out⟩, hC3.out⟩, by simp [intOf]; omega⟩
        · obtain rfl : j = ts.length := by omega
          have hB3 := Lib.hid (below_chg hB2.out hCJ.out hB2.out.size hgw.out)
          go_wp2
          go_roundw
          case rel => exact ⟨k + 1, by omega, by go_num, ⟨mj, fj, by omega, hMJ.out, by rw [hck2.out, hSk.out]; exact hFJ.out⟩, hB3.out⟩
          case measure => simp [intOf]; omega
    · obtain rfl : k = n := by omega
      go_wp2
      go_ret
      exact ⟨b, mm, f, rfl, hMP.out, hFF.out, hBL.out⟩
end Go.Proofs.Ytdleiondfhmjdaa
