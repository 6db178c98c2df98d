/- Texts of this proof, one behind the other: EA, GA, BK, RR. -/
import Derived.Test.YtaaloepoegehkaaZ4
import Derived.Test.YtaaloepoegehkaaK
import Derived.WalkKit
import Derived.Lib.Hide
import Derived.RangeFuncNested
import Derived.RangeFuncBound
import Derived.RangeFuncCalls
import Derived.RangeFuncLeaves
import Derived.RangeFuncBox
import Derived.Shelf.Abstract
import Derived.Shelf.RegionOpen
import Derived.OwnWalkIn
import Derived.TacticsInMore
import Derived.LoopNIn
import Derived.LoopIn
import Derived.Test.YtaaloepoegehkaaKInstr
import Derived.OrdersIn
import Derived.Deep.RegionHeld3
/- Chapter 5, plain: the tiles at a node. No program is walked here. -/
namespace Go.Proofs.Ytaaloepoegehkaa
open Go.RowKit
set_option linter.unusedVariables false

structure Ti where
  num : Int
  ps : List Int
  ins : List Int
  c : Int

structure Fo where
  num : Int
  ops : List ByteArray
  btw : ByteArray
  fst : Bool
  ws : List Int

def oAdd : ByteArray := ⟨#[97,100,100]⟩
def oSub : ByteArray := ⟨#[115,117,98]⟩
def oMul : ByteArray := ⟨#[109,117,108]⟩
def oAnd : ByteArray := ⟨#[97,110,100]⟩
def oXor : ByteArray := ⟨#[120,111,114]⟩
def oShl : ByteArray := ⟨#[115,104,108]⟩
def oShr : ByteArray := ⟨#[115,104,114]⟩
def oNo : ByteArray := ⟨#[]⟩

def fos : List Fo := [
  ⟨4, [oAdd, oSub, oAnd, oXor], oNo, false, []⟩,
  ⟨5, [oAdd, oAnd, oXor], oNo, true, []⟩,
  ⟨6, [oShl, oShr], oNo, false, [1, 2, 3, 4, 5]⟩,
  ⟨7, [oMul], oNo, false, [2, 4, 8, 16, 32]⟩,
  ⟨8, [oMul], oNo, true, [2, 4, 8, 16, 32]⟩,
  ⟨9, [oAdd], oShl, false, [1, 2, 3]⟩,
  ⟨10, [oAdd], oShl, true, [1, 2, 3]⟩,
  ⟨11, [oAdd], oMul, false, [2, 4, 8]⟩,
  ⟨12, [oAdd], oMul, true, [2, 4, 8]⟩]

def nodeAt (es : List Nd) (k : Int) : Nd := es.getD k.toNat zeroNd
theorem nodeAt_nat {es : List Nd} {k : Nat} (h : k < es.length) : nodeAt es (k : Int) = es[k] := by
  unfold nodeAt; rw [Int.toNat_natCast, List.getD_eq_getElem?_getD, List.getElem?_eq_getElem h]; rfl
def takes (f : Fo) (n : Nd) : Bool := isConst n.op && (f.ws.length == 0 || hasI f.ws n.v)
def fPart (f : Fo) (n : Nd) : Int := if f.fst = true then n.b else n.a
def fTaken (f : Fo) (n : Nd) : Int := if f.fst = true then n.a else n.b
def noBtw (f : Fo) : Bool := f.btw.toList == []
def foTi (es : List Nd) (f : Fo) (n : Nd) : Ti :=
  if noBtw f = true then ⟨f.num, [fPart f n], [fTaken f n], 1⟩
  else ⟨f.num, [fPart f n, (nodeAt es (fTaken f n)).a], [(nodeAt es (fTaken f n)).b, fTaken f n], 1⟩
def foOk (es : List Nd) (f : Fo) (n : Nd) : Bool :=
  hasS f.ops n.op && (if noBtw f = true then takes f (nodeAt es (fTaken f n))
    else (nodeAt es (fTaken f n)).op.toList == f.btw.toList && takes f (nodeAt es (nodeAt es (fTaken f n)).b))
def foO (es : List Nd) (n : Nd) (f : Fo) : Option Ti := if foOk es f n = true then some (foTi es f n) else none

/-- The tile t at a node, if it is told for it. -/
def mt (es : List Nd) (n : Nd) : Nat → Option Ti
  | 0 => if isIn n.op = true then some ⟨0, [], [], 0⟩ else none
  | 1 => if isConst n.op = true then some ⟨1, [], [], 1⟩ else none
  | 2 => if isOne n.op = true then some ⟨2, [n.a], [], 1⟩ else none
  | 3 => if isTwo n.op = true then some ⟨3, [n.a, n.b], [], cst n.op⟩ else none
  | k + 4 => (fos[k]?).bind (foO es n)
def tilesL (es : List Nd) (n : Nd) : List Ti := (List.range 13).filterMap (mt es n)
def tileO (es : List Nd) (n : Nd) (t : Int) : Option Ti := if inR t 0 12 = true then mt es n t.toNat else none

theorem foO_num {es : List Nd} {n : Nd} {f : Fo} {x : Ti} (h : foO es n f = some x) : x.num = f.num := by
  unfold foO at h
  split at h
  · injection h with h; subst h; unfold foTi; split <;> rfl
  · cases h
theorem fos_num : ∀ (k : Nat) (f : Fo), fos[k]? = some f → f.num = (k : Int) + 4 := by
  intro k f h
  have hk : k < 9 := by
    rcases Nat.lt_or_ge k 9 with h9 | h9
    · exact h9
    · rw [List.getElem?_eq_none (by simpa [fos] using h9)] at h; cases h
  match k, hk with
  | 0, _ | 1, _ | 2, _ | 3, _ | 4, _ | 5, _ | 6, _ | 7, _ | 8, _ => simp [fos] at h; subst h; rfl
theorem mt_num {es : List Nd} {n : Nd} {k : Nat} {x : Ti} (h : mt es n k = some x) : x.num = k := by
  match k with
  | 0 => simp only [mt] at h; split at h <;> simp at h; subst h; rfl
  | 1 => simp only [mt] at h; split at h <;> simp at h; subst h; rfl
  | 2 => simp only [mt] at h; split at h <;> simp at h; subst h; rfl
  | 3 => simp only [mt] at h; split at h <;> simp at h; subst h; rfl
  | k + 4 =>
    simp only [mt, Option.bind_eq_some_iff] at h
    obtain ⟨f, hf, h⟩ := h
    rw [foO_num h, fos_num _ _ hf]; omega
theorem tiles_mem {es : List Nd} {n : Nd} {x : Ti} (h : x ∈ tilesL es n) : ∃ k, k < 13 ∧ mt es n k = some x := by
  unfold tilesL at h
  rw [List.mem_filterMap] at h
  obtain ⟨k, hk, h⟩ := h
  exact ⟨k, List.mem_range.1 hk, h⟩
theorem tile_of_mem {es : List Nd} {n : Nd} {x : Ti} {t : Int} (h : x ∈ tilesL es n) (ht : x.num = t) : tileO es n t = some x := by
  obtain ⟨k, hk, h⟩ := tiles_mem h
  have hn := mt_num h
  have e : t = (k : Int) := by rw [← ht, hn]
  subst e
  unfold tileO
  rw [if_pos ((inR_iff _ _ _).2 ⟨by omega, by omega⟩), Int.toNat_natCast, h]
theorem tile_none {es : List Nd} {n : Nd} {t : Int} (h : ∀ x ∈ tilesL es n, x.num ≠ t) : tileO es n t = none := by
  unfold tileO
  split
  · rename_i hr
    obtain ⟨h0, h1⟩ := (inR_iff _ _ _).1 hr
    cases hm : mt es n t.toNat with
    | none => rfl
    | some x =>
      exact absurd (by rw [mt_num hm]; omega) (h x (by unfold tilesL; rw [List.mem_filterMap]; exact ⟨t.toNat, List.mem_range.2 (by omega), hm⟩))
  · rfl

def plainT (n : Nd) : Ti :=
  if isIn n.op = true then ⟨0, [], [], 0⟩ else if isConst n.op = true then ⟨1, [], [], 1⟩ else ⟨1 + (parts n).length, parts n, [], cst n.op⟩

theorem one_cst {s : ByteArray} (h : isOne s = true) : cst s = 1 := by
  have h' : s.toList = [110,111,116] ∨ s.toList = [110,101,103] := by simpa [isOne] using h
  rcases h' with h' | h' <;> simp [cst, h']
theorem range13 {α : Type} (f : Nat → Option α) : (List.range 13).filterMap f = ([0, 1, 2, 3].filterMap f) ++ ([0, 1, 2, 3, 4, 5, 6, 7, 8].filterMap fun k => f (k + 4)) := by
  have : List.range 13 = [0, 1, 2, 3] ++ [0, 1, 2, 3, 4, 5, 6, 7, 8].map (· + 4) := by decide
  rw [this, List.filterMap_append, List.filterMap_map]; rfl
theorem fos_map (es : List Nd) (n : Nd) : ([0, 1, 2, 3, 4, 5, 6, 7, 8].filterMap fun k => mt es n (k + 4)) = fos.filterMap (foO es n) := by
  have : fos = [0, 1, 2, 3, 4, 5, 6, 7, 8].filterMap fun k => fos[k]? := by rfl
  conv => rhs; rw [this, List.filterMap_filterMap]
  rfl
theorem prog_tiles {es : List Nd} {n : Nd} {i : Int} (h : isNode n i = true) : plainT n :: fos.filterMap (foO es n) = tilesL es n := by
  unfold tilesL
  rw [range13, fos_map]
  have : plainT n :: fos.filterMap (foO es n) = [plainT n] ++ fos.filterMap (foO es n) := rfl
  rw [this]
  congr 1
  rcases node_kinds h with ⟨h1, _⟩ | ⟨h1, h2, _⟩ | ⟨h1, h2, h3, h4, _⟩ | ⟨h1, h2, h3, h4, _⟩
  · have e1 : isIn n.op = false := by simp [isIn, h1]
    have e2 : isConst n.op = true := by simp [isConst, h1]
    have e3 : isOne n.op = false := by simp [isOne, h1]
    have e4 : isTwo n.op = false := by simp [isTwo, twoOps, h1]
    simp [plainT, mt, e1, e2, e3, e4]
  · have e1 : isIn n.op = true := by simp [isIn, h1]
    have e2 : isConst n.op = false := by simp [isConst, h1]
    have e3 : isOne n.op = false := by simp [isOne, h1]
    have e4 : isTwo n.op = false := by simp [isTwo, twoOps, h1]
    simp [plainT, mt, e1, e2, e3, e4]
  · have e1 : isIn n.op = false := h2
    have e2 : isConst n.op = false := h1
    simp [plainT, mt, e1, e2, h3, h4, parts, one_cst h3]
  · have e1 : isIn n.op = false := h2
    have e2 : isConst n.op = false := h1
    simp [plainT, mt, e1, e2, h3, h4, parts]

/- What bounds a tile. -/
def TiBd (x : Ti) (i : Int) : Prop := x.ps.length ≤ 2 ∧ x.ins.length ≤ 2 ∧ 0 ≤ x.c ∧ x.c ≤ 4 ∧ ∀ p ∈ x.ps, 0 ≤ p ∧ p < i
theorem two_of_has {f : Fo} (hf : f ∈ fos) {s : ByteArray} (h : hasS f.ops s = true) : isTwo s = true := by
  unfold hasS at h
  rw [List.any_eq_true] at h
  obtain ⟨t, ht, h⟩ := h
  have h' : s.toList = t.toList := by rw [beq_iff_eq] at h; exact h.symm
  have : ∀ f ∈ fos, ∀ t ∈ f.ops, isTwo t = true := by decide +kernel
  have h2 := this f hf t ht
  unfold isTwo at h2 ⊢; rw [h']; exact h2
theorem two_of_btw {f : Fo} (hf : f ∈ fos) (hn : noBtw f = false) : isTwo f.btw = true := by
  have : ∀ f ∈ fos, noBtw f = false → isTwo f.btw = true := by decide +kernel
  exact this f hf hn
theorem two_bd {n : Nd} {i : Int} (h : isNode n i = true) (ht : isTwo n.op = true) : 0 ≤ n.a ∧ n.a < i ∧ 0 ≤ n.b ∧ n.b < i := by
  have hp := isNode_parts h
  have h1 : isOne n.op = false := two_not_one _ ht
  simp [parts, h1, ht] at hp
  omega
end Go.Proofs.Ytaaloepoegehkaa

/- slices.Backward over nodes: what it hands to a loop's body. -/
namespace Go.Proofs.Ytaaloepoegehkaa
open Go.RowKit Go.Shelf
set_option linter.unusedVariables false
attribute [local go_sem] Oper.semAt_some

/-- A value in a box. -/
def BX (w : World) (b : Nat) (t : TypeId) (v : Value) : Prop := w.heap[b]? = some (.cells #[v] t (0, 0))
theorem BX.lt {w : World} {b : Nat} {t : TypeId} {v : Value} (h : BX w b t v) : b < w.heap.size := by
  rcases Nat.lt_or_ge b w.heap.size with hlt | hge
  · exact hlt
  · unfold BX at h; rw [Array.getElem?_eq_none hge] at h; cases h
theorem BX.new (w : World) (t : TypeId) (v : Value) : BX (w.alloc (.cells #[v] t)) w.heap.size t v := heap_alloc_new w _
theorem BX.cell {w : World} {b : Nat} {t : TypeId} {v : Value} (h : BX w b t v) : w.cell? ⟨b, 0, none⟩ = some v := cell_of_row w b 0 #[v] t (0, 0) h
theorem BX.fz {w : World} {b : Nat} {t : TypeId} {v : Value} (h : BX w b t v) : w.frozen? ⟨b, 0, none⟩ = false := by
  unfold BX at h; simp [World.frozen?, h]
theorem BX.below {w w' : World} {b B : Nat} {t : TypeId} {v : Value} (h : BX w b t v) (hb : Below B w w') (hB : b < B) : BX w' b t v := (hb.block b hB).trans h
theorem BX.next {w w' : World} {b : Nat} {t : TypeId} {v : Value} (h : BX w b t v) (hb : Below w.heap.size w w') : BX w' b t v := h.below hb h.lt
theorem BX.al {w : World} {b : Nat} {t : TypeId} {v : Value} (h : BX w b t v) (o : Obj) : BX (w.alloc o) b t v := h.next ((Below.refl _ _).alloc (Nat.le_refl _) o)
theorem BX.set {w : World} {b : Nat} {t : TypeId} {v : Value} (h : BX w b t v) (u : Value) : BX (w.setCell ⟨b, 0, none⟩ u) b t u := by
  unfold BX at h ⊢; simp [World.setCell, Array.getElem?_modify, h]
theorem BX.other {w : World} {b q : Nat} {t : TypeId} {v : Value} (h : BX w b t v) (j : Nat) (u : Value) (hne : q ≠ b) : BX (w.setCell ⟨q, j, none⟩ u) b t v :=
  (Below.heap_setCell w ⟨q, j, none⟩ u b (by simpa using Ne.symm hne)).trans h
theorem BX.kept {w w' : World} {b : Nat} {t : TypeId} {v : Value} {row : Option Nat} (h : BX w b t v) (hg : w.grownBy w' row) (hne : row ≠ some b) : BX w' b t v := (hg.block b h.lt (fun e => hne e.symm)).trans h
/-- A turn of what is no cells leaves a block of cells. -/
theorem row_not {w : World} {row : Option Nat} {b : Nat} {cs : Array Value} {t : TypeId} {x : Nat × Nat} (h : w.heap[b]? = some (.cells cs t x)) (hr : ∀ r, row = some r → ∃ o : Obj, w.heap[r]? = some o ∧ o.isCells = false) : row ≠ some b := by
  intro e
  obtain ⟨o, ho, hc⟩ := hr b e
  rw [h] at ho; injection ho with ho; subst ho; cases hc
def uptoB {α : Type} (f : Nat → α) (k : Nat) : List α := (List.range k).map f
theorem uptoB_succ {α : Type} (f : Nat → α) (k : Nat) : uptoB f (k + 1) = uptoB f k ++ [f k] := by simp [uptoB, List.range_succ]
theorem uptoB_length {α : Type} (f : Nat → α) (k : Nat) : (uptoB f k).length = k := by simp [uptoB]
theorem uptoB_prefix {α : Type} (f : Nat → α) {k n : Nat} (h : k ≤ n) : uptoB f k <+: uptoB f n := by
  obtain ⟨d, rfl⟩ := Nat.exists_eq_add_of_le h
  refine ⟨(List.range d).map (fun i => f (k + i)), ?_⟩
  simp [uptoB, List.range_add]
/-- What a node is as a value. -/
def ndV (x : Nd) : Value := .agg #[.string x.op, .int .i64 x.a, .int .i64 x.b, .int .i64 x.v]
/-- What slices.Backward hands to a round: a place and a node. -/
abbrev Bw (es : List Nd) := { x : Nat × Nd // x.1 < es.length }
/-- What comes from the last node back. -/
def bwF (es : List Nd) (h : 1 ≤ es.length) (k : Nat) : Bw es := ⟨(es.length - 1 - k, es.getD (es.length - 1 - k) zeroNd), by show es.length - 1 - k < es.length; omega⟩

/-- What a round keeps: what lay below n₀, and the box with the slice. -/
def KpB (n₀ Bs : Nat) (t : TypeId) (W W' : World) : Prop := Below n₀ W W' ∧ ∀ v, BX W Bs t v → BX W' Bs t v
theorem KpB.t {n₀ Bs : Nat} {t : TypeId} {A B C : World} (h1 : KpB n₀ Bs t A B) (h2 : KpB n₀ Bs t B C) : KpB n₀ Bs t A C := ⟨h1.1.trans h2.1, fun v h => h2.2 v (h1.2 v h)⟩
theorem KpB.b {n₀ Bs : Nat} {t : TypeId} {w : World} (hn : n₀ ≤ w.heap.size) (W : World) (l : Nat) (o o' : Obj) (h1 : w.heap.size ≤ l) (h2 : W.heap[l]? = some o) (h3 : o.isCells = false) (h4 : o.isWalk = false) : KpB n₀ Bs t W (W.putObj l o') := by
  refine ⟨belowK_b hn W l o o' h1 h2 h3 h4, fun v hb => ?_⟩
  have hne : Bs ≠ l := by
    intro e
    subst e
    unfold BX at hb
    rw [hb] at h2; injection h2 with h2; subst h2; cases h3
  exact (World.putObj_heap_other hne).trans hb

end Go.Proofs.Ytaaloepoegehkaa

/- slices.Backward over instructions: what it hands to a loop's body. -/
namespace Go.Proofs.Ytaaloepoegehkaa
open Go.RowKit Go.Shelf
set_option linter.unusedVariables false
attribute [local go_sem] Oper.semAt_some

def inV (x : In) : Value := .agg #[.string x.op, .int .i64 x.d, .int .i64 x.a, .int .i64 x.b, .int .i64 x.m]
/-- What slices.Backward hands to a round: a place and an instruction of the code. -/
abbrev BwI (es : List In) := { x : Nat × In // x.1 < es.length ∧ es[x.1]? = some x.2 }
def bL (es : List In) : List (BwI es) := (List.finRange es.length).reverse.map fun i => ⟨(i.1, es[i.1]'i.2), i.2, List.getElem?_eq_getElem i.2⟩
theorem bL_length (es : List In) : (bL es).length = es.length := by simp [bL]
theorem bL_succ {es : List In} {r : Nat} (h : r < es.length) : (bL es).take (es.length - (r + 1) + 1) = (bL es).take (es.length - (r + 1)) ++ [⟨(r, es[r]), h, List.getElem?_eq_getElem h⟩] := by
  have hk : es.length - (r + 1) < (bL es).length := by rw [bL_length]; omega
  rw [List.take_succ_eq_append_getElem hk]
  congr 2
  apply Subtype.ext
  have e : es.length - 1 - (es.length - (r + 1)) = r := by omega
  simp [bL, e]

set_option maxRecDepth 100000 in
set_option maxHeartbeats 4000000 in
theorem bwI1_in (F : Fence) (n : Nat) (hf : F.fn 222) (hro : F.round = none) (hn : 1 ≤ n) (l Bs n₀ L B : Nat) (A : Option Addr) (cap : Nat) (es : List In) (hl : es.length ≤ 1048576) (hB : B ≤ n₀) (W : World) (hes : RS In.enc 5 W L B A es) (J Jx : List (BwI es) → World → Prop)
    (hY : ∀ pre x W, J pre W → pre.length < es.length → YieldAt F (n - 1) Try.prog l #[.int .i64 (x.1.1 : Int), inV x.1.2] W fun e W' =>
      (e = .returned (.bool true) ∧ J (pre ++ [x]) W' ∧ KpB n₀ Bs 28 W W') ∨ (e = .returned (.bool false) ∧ Jx (pre ++ [x]) W'))
    (hBs : BX W Bs 28 (.slice A es.length cap))
    (h0 : J [] W) :
    CallsIn F n Try.prog 222 #[.func (.yield l) #[] #[], .pointer (some ⟨Bs, 0, none⟩)] W fun e W' => (∃ v, e = .returned v) ∧
      ((∃ ys, ys = (bL es).take es.length ∧ J ys W') ∨ (∃ pre, (∃ k, k ≤ es.length ∧ pre = (bL es).take k) ∧ Jx pre W')) := by
  refine callsIn_of_wp Try.func222 rfl hf ?_ hro
  simp only [Try.ntmps222, List.size_toArray, List.length_cons, List.length_nil, Nat.reduceAdd, Nat.reduceSub, Array.replicate_succ, Array.replicate_zero, List.push_toArray, List.append_toArray, List.nil_append, List.cons_append]
  have hl2 : (es.length : Int) ≤ 1048576 := by omega
  have hw1 : IntKind.i64.wrap ((es.length : Int) - 1) = (es.length : Int) - 1 := by rw [IntKind.wrap_i64]; omega
  have cS0 := hBs.cell
  gi_wp2
  gi_loopw [3] (fun i wr => ∃ r : Nat, r ≤ es.length ∧ i = .int .i64 ((r : Int) - 1) ∧ J ((bL es).take (es.length - r)) wr ∧ KpB n₀ Bs 28 W wr)
    (fun i _ => (intOf i + 1).toNat)
  case atStart => exact ⟨es.length, Nat.le_refl _, rfl, by rw [Nat.sub_self]; exact h0, Below.refl _ _, fun _ h => h⟩
  case round =>
    obtain ⟨r, hr, rfl, hJs, hnx⟩ := hrel
    cases r with
    | zero =>
      have e0 : ((0 : Nat) : Int) - 1 = -1 := by decide
      rw [e0]
      gi_wp2
      go_end0
      exact ⟨⟨_, rfl⟩, .inl ⟨_, rfl, by simpa using hJs⟩⟩
    | succ r =>
      have e0 : ((r + 1 : Nat) : Int) - 1 = (r : Int) := by omega
      rw [e0]
      have hri : (r : Int) < (es.length : Int) := by omega
      have hr0 : (0 : Int) ≤ (r : Int) := by omega
      have hrl : r < es.length := hr
      have cS := (hnx.2 _ hBs).cell
      obtain ⟨b, off, rfl, ⟨_, hbB⟩, hc⟩ := In.cells hes (by omega)
      have hb : b < n₀ := by omega
      obtain ⟨c1, c2, c3, c4, c5⟩ := hc r hrl
      have d1 := (hnx.1.cell (p := ⟨b, off + r * 5, none⟩) hb).trans c1
      have d2 := (hnx.1.cell (p := ⟨b, off + r * 5 + 1, none⟩) hb).trans c2
      have d3 := (hnx.1.cell (p := ⟨b, off + r * 5 + 2, none⟩) hb).trans c3
      have d4 := (hnx.1.cell (p := ⟨b, off + r * 5 + 3, none⟩) hb).trans c4
      have d5 := (hnx.1.cell (p := ⟨b, off + r * 5 + 4, none⟩) hb).trans c5
      clear c1 c2 c3 c4 c5
      have hsucc : (bL es).take (es.length - r) = (bL es).take (es.length - (r + 1)) ++ [⟨(r, es[r]), hrl, List.getElem?_eq_getElem hrl⟩] := by
        have e : es.length - r = es.length - (r + 1) + 1 := by omega
        rw [e]; exact bL_succ hrl
      obtain ⟨fn, tmps, assign, body, hy, hR⟩ := hY _ ⟨(r, es[r]), hrl, List.getElem?_eq_getElem hrl⟩ wr hJs (by rw [List.length_take, bL_length]; omega)
      dsimp only [inV] at hy
      have hw2 : IntKind.i64.wrap ((r : Int) - 1) = (r : Int) - 1 := by rw [IntKind.wrap_i64]; omega
      gi_wp2
      refine hR.mono ?_
      rintro e W3 (⟨rfl, hJ3, hk3⟩ | ⟨rfl, hJx3⟩)
      · gi_wp2
        go_roundw
        case rel => exact ⟨r, by omega, rfl, by rw [hsucc]; exact hJ3, hnx.t hk3⟩
        case measure => first | (simp [intOf]; done) | (simp [intOf]; omega)
      · gi_wp2
        refine bodyPost_ret (results_none rfl _ _ _) rfl ?_
        exact ⟨⟨_, rfl⟩, .inr ⟨_, ⟨es.length - r, by omega, hsucc.symm⟩, hJx3⟩⟩

/-- slices.Backward(e): the slice value is boxed; the function value captures the box. -/
theorem bwI_in (F : Fence) (n : Nat) (hf : F.fn 196) (hro : F.round = none) (a : Option Addr) (len cap : Nat) (w : World) :
    CallsIn F n Try.prog 196 #[.slice a len cap] w fun e w' => e = .returned (.func (.func 222) #[] #[.pointer (some ⟨w.heap.size, 0, none⟩)]) ∧ w' = w.alloc (.cells #[.slice a len cap] 28) := by
  refine callsIn_of_wp Try.func196 rfl hf ?_ hro
  simp only [Try.ntmps196, List.size_toArray, List.length_cons, List.length_nil, Nat.reduceAdd, Nat.reduceSub, Array.replicate_succ, Array.replicate_zero, List.push_toArray, List.append_toArray, List.nil_append, List.cons_append]
  gi_wp2
  go_ret
  exact ⟨rfl, rfl⟩

/-- What slices.Backward hands back stops when all nodes have come, or when some of them have come: for every body that keeps what lay below n₀. -/
theorem bwI_stops (F : Fence) (n : Nat) (hf : F.fn 222) (hro : F.round = none) (hn : 1 ≤ n) (Bs n₀ L B : Nat) (A : Option Addr) (cap : Nat) (es : List In) (hl : es.length ≤ 1048576) (w : World) (hn₀ : n₀ ≤ w.heap.size)
    (hc : BX w Bs 28 (.slice A es.length cap)) (hes : RS In.enc 5 w L B A es) (hB : B ≤ n₀) :
    SeqStopsK F n Try.prog 222 #[.pointer (some ⟨Bs, 0, none⟩)] (fun x : BwI es => #[.int .i64 (x.1.1 : Int), inV x.1.2]) (KpB n₀ Bs 28) (fun ys => ys = (bL es).take es.length) (fun pre => ∃ k, k ≤ es.length ∧ pre = (bL es).take k) es.length w := fun l J Jx W hW _ _ hY h0 => by
  have hc' := hc.next hW
  exact bwI1_in F n hf hro hn l Bs n₀ L B A cap es hl hB W (hes.below hW (by omega)) J Jx hY hc' h0
end Go.Proofs.Ytaaloepoegehkaa

/- A region that draws its order, in a round of a range over a function: by the walk outside. -/
namespace Go.Proofs.Ytaaloepoegehkaa
open Go.RowKit
set_option linter.unusedVariables false

/-- A region that goes on and nothing else. -/
def OnlyN (K : Act → World → Prop) : Exit → Act → World → Prop
  | .normal, a, w => K a w
  | _, _, _ => False
theorem oper_round {l n : Nat} {P : Program} {o : Oper} {a : Act} {w : World} {K K0 : Act → World → Prop} {Q : Exit → Act → World → Prop} (hd : ∀ c, o.op ≠ .defer c) (h : o.wp P a w K (OnlyN K0)) : o.wpIn (Fence.wide.inRound l) n P a w K Q := by
  refine ⟨fun _ _ => trivial, ?_⟩
  rw [show (Fence.wide.inRound l).round = some l from rfl, Oper.semAt_some l _ o hd]
  unfold Oper.wp at h
  generalize (execOp a.eval o).run P w = r at h ⊢
  cases r with
  | ok x w' =>
    cases x with
    | value v => exact h
    | skip => exact h
    | defer d => exact h
    | enter f args =>
      refine ⟨fun h => (by cases h), CallsIn.inRound l (callsIn_wide.2 (Calls.mono h ?_))⟩
      intro e w2 he
      cases e with
      | returned v => exact he
      | panicked c => exact (he : False).elim
      | outgrown =>
        obtain ⟨_, _, hx⟩ := (show LetsOut (OnlyN K0) from he)
        exact (show False from hx).elim
    | row r args =>
      refine ⟨fun h => (by cases h), fun c cs _ => ?_⟩
      obtain ⟨v, w2, hr, hs⟩ := h c cs
      exact ⟨v, w2, hr, stepsIn_wide.2 hs⟩
    | _ => exact (show False from h).elim
  | halt x w' =>
    cases x <;> exact (show False from h).elim

theorem wpOp_round {l n : Nat} {P : Program} {ops : Array Oper} {i : Nat} {a : Act} {w : World} {K K0 : Act → World → Prop} {Q : Exit → Act → World → Prop} (hd : ∀ (i : Nat) (o : Oper), ops[i]? = some o → ∀ c, o.op ≠ .defer c) (h : wpOp P ops (OnlyN K0) i K a w) : wpOpIn (Fence.wide.inRound l) n P ops Q i K a w := by
  unfold wpOp at h
  unfold wpOpIn
  cases ho : ops[i]? with
  | none => rw [ho] at h; exact h
  | some o =>
    rw [ho] at h
    simp only at h ⊢
    split
    · rename_i hw
      rw [if_pos hw] at h
      rcases h with h | ⟨_, h⟩
      · exact oper_round (hd i o ho) h
      · obtain ⟨_, _, hx⟩ := (show LetsOut (OnlyN K0) from h)
        exact (show False from hx).elim
    · rename_i hw
      rw [if_neg hw] at h
      exact ⟨fun _ _ => trivial, h⟩

theorem wpAny_round {l n : Nat} {P : Program} {ops : Array Oper} {md : Region.Mode} {K0 : Act → World → Prop} {Q : Exit → Act → World → Prop} (hd : ∀ (i : Nat) (o : Oper), ops[i]? = some o → ∀ c, o.op ≠ .defer c) (hQ : ∀ a w, K0 a w → Q .normal a w) :
    ∀ (fuel : Nat) (listed : Array Bool) (a : Act) (w : World), wpAny P md ops (OnlyN K0) fuel listed a w → wpAnyIn (Fence.wide.inRound l) n P md ops Q fuel listed a w := by
  intro fuel
  induction fuel with
  | zero => intro listed a w h; exact ⟨h.1, hQ _ _ h.2⟩
  | succ fuel ih =>
    intro listed a w h
    refine ⟨fun hr => hQ _ _ (h.1 hr), fun i hi => ?_⟩
    exact wpOpIn_mono (fun a w => ih _ a w) (wpOp_round hd (h.2 i hi))

/-- The region in a round: by the walk that takes the loads first. -/
theorem region_round {l n id : Nat} {P : Program} {ops : Array Oper} {S : World → Prop} {K0 : Act → World → Prop} {Q : Exit → Act → World → Prop} {a : Act} {w : World} (hm : P.follows .mixedOrders = true) (hd : ops.toList.all (fun o => match o.op with | .defer _ => false | _ => true) = true) (hQ : ∀ a w, K0 a w → Q .normal a w) (hS : S w.drew)
    (h : S w.drew → wpAnyH P .any ops (OnlyN K0) S ops.size (Array.replicate ops.size false) a w.drew) : (Code.region id ops true).wpIn (Fence.wide.inRound l) n P Q a w := by
  have hd' : ∀ (i : Nat) (o : Oper), ops[i]? = some o → ∀ c, o.op ≠ .defer c := by
    intro i o ho c hc
    have hm := (List.all_eq_true.1 hd) o (by rw [← Array.getElem?_toList] at ho; exact List.mem_of_getElem? ho)
    simp [hc] at hm
  refine wpIn_region_any hm (wpAny_round hd' hQ _ _ _ _ ?_)
  exact wpAny_of_held _ _ _ _ (h hS)
end Go.Proofs.Ytaaloepoegehkaa
