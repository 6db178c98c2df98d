import Derived.Test.YtmhdijklindipaaYA
import Derived.Test.YtmhdijklindipaaK
import Derived.WalkKit
import Derived.Lib.Hide
/- Chapter 5, plain: the tiles at a node. No program is walked here. -/
namespace Go.Proofs.Ytmhdijklindipaa
open Go.RowKit
set_option linter.unusedVariables false

structure Ti where
  num : Int
  ps : List Int
  ins : List Int
  c : Int

structure Fo where
  num : Int
  ops : List ByteArray
  btw : ByteArray
  fst : Bool
  ws : List Int

def oAdd : ByteArray := ⟨#[97,100,100]⟩
def oSub : ByteArray := ⟨#[115,117,98]⟩
def oMul : ByteArray := ⟨#[109,117,108]⟩
def oAnd : ByteArray := ⟨#[97,110,100]⟩
def oXor : ByteArray := ⟨#[120,111,114]⟩
def oShl : ByteArray := ⟨#[115,104,108]⟩
def oShr : ByteArray := ⟨#[115,104,114]⟩
def oNo : ByteArray := ⟨#[]⟩

def fos : List Fo := [
  ⟨4, [oAdd, oSub, oAnd, oXor], oNo, false, []⟩,
  ⟨5, [oAdd, oAnd, oXor], oNo, true, []⟩,
  ⟨6, [oShl, oShr], oNo, false, [1, 2, 3, 4, 5]⟩,
  ⟨7, [oMul], oNo, false, [2, 4, 8, 16, 32]⟩,
  ⟨8, [oMul], oNo, true, [2, 4, 8, 16, 32]⟩,
  ⟨9, [oAdd], oShl, false, [1, 2, 3]⟩,
  ⟨10, [oAdd], oShl, true, [1, 2, 3]⟩,
  ⟨11, [oAdd], oMul, false, [2, 4, 8]⟩,
  ⟨12, [oAdd], oMul, true, [2, 4, 8]⟩]

def nodeAt (es : List Nd) (k : Int) : Nd := es.getD k.toNat zeroNd
theorem nodeAt_nat {es : List Nd} {k : Nat} (h : k < es.length) : nodeAt es (k : Int) = es[k] := by
  unfold nodeAt; rw [Int.toNat_natCast, List.getD_eq_getElem?_getD, List.getElem?_eq_getElem h]; rfl
def takes (f : Fo) (n : Nd) : Bool := isConst n.op && (f.ws.length == 0 || hasI f.ws n.v)
def fPart (f : Fo) (n : Nd) : Int := if f.fst = true then n.b else n.a
def fTaken (f : Fo) (n : Nd) : Int := if f.fst = true then n.a else n.b
def noBtw (f : Fo) : Bool := f.btw.toList == []
def foTi (es : List Nd) (f : Fo) (n : Nd) : Ti :=
  if noBtw f = true then ⟨f.num, [fPart f n], [fTaken f n], 1⟩
  else ⟨f.num, [fPart f n, (nodeAt es (fTaken f n)).a], [(nodeAt es (fTaken f n)).b, fTaken f n], 1⟩
def foOk (es : List Nd) (f : Fo) (n : Nd) : Bool :=
  hasS f.ops n.op && (if noBtw f = true then takes f (nodeAt es (fTaken f n))
    else (nodeAt es (fTaken f n)).op.toList == f.btw.toList && takes f (nodeAt es (nodeAt es (fTaken f n)).b))
def foO (es : List Nd) (n : Nd) (f : Fo) : Option Ti := if foOk es f n = true then some (foTi es f n) else none

/-- The tile t at a node, if it is told for it. -/
def mt (es : List Nd) (n : Nd) : Nat → Option Ti
  | 0 => if isIn n.op = true then some ⟨0, [], [], 0⟩ else none
  | 1 => if isConst n.op = true then some ⟨1, [], [], 1⟩ else none
  | 2 => if isOne n.op = true then some ⟨2, [n.a], [], 1⟩ else none
  | 3 => if isTwo n.op = true then some ⟨3, [n.a, n.b], [], cst n.op⟩ else none
  | k + 4 => (fos[k]?).bind (foO es n)
def tilesL (es : List Nd) (n : Nd) : List Ti := (List.range 13).filterMap (mt es n)
def tileO (es : List Nd) (n : Nd) (t : Int) : Option Ti := if inR t 0 12 = true then mt es n t.toNat else none

theorem foO_num {es : List Nd} {n : Nd} {f : Fo} {x : Ti} (h : foO es n f = some x) : x.num = f.num := by
  unfold foO at h
  split at h
  · injection h with h; subst h; unfold foTi; split <;> rfl
  · cases h
theorem fos_num : ∀ (k : Nat) (f : Fo), fos[k]? = some f → f.num = (k : Int) + 4 := by
  intro k f h
  have hk : k < 9 := by
    rcases Nat.lt_or_ge k 9 with h9 | h9
    · exact h9
    · rw [List.getElem?_eq_none (by simpa [fos] using h9)] at h; cases h
  match k, hk with
  | 0, _ | 1, _ | 2, _ | 3, _ | 4, _ | 5, _ | 6, _ | 7, _ | 8, _ => simp [fos] at h; subst h; rfl
theorem mt_num {es : List Nd} {n : Nd} {k : Nat} {x : Ti} (h : mt es n k = some x) : x.num = k := by
  match k with
  | 0 => simp only [mt] at h; split at h <;> simp at h; subst h; rfl
  | 1 => simp only [mt] at h; split at h <;> simp at h; subst h; rfl
  | 2 => simp only [mt] at h; split at h <;> simp at h; subst h; rfl
  | 3 => simp only [mt] at h; split at h <;> simp at h; subst h; rfl
  | k + 4 =>
    simp only [mt, Option.bind_eq_some_iff] at h
    obtain ⟨f, hf, h⟩ := h
    rw [foO_num h, fos_num _ _ hf]; omega
theorem tiles_mem {es : List Nd} {n : Nd} {x : Ti} (h : x ∈ tilesL es n) : ∃ k, k < 13 ∧ mt es n k = some x := by
  unfold tilesL at h
  rw [List.mem_filterMap] at h
  obtain ⟨k, hk, h⟩ := h
  exact ⟨k, List.mem_range.1 hk, h⟩
theorem tile_of_mem {es : List Nd} {n : Nd} {x : Ti} {t : Int} (h : x ∈ tilesL es n) (ht : x.num = t) : tileO es n t = some x := by
  obtain ⟨k, hk, h⟩ := tiles_mem h
  have hn := mt_num h
  have e : t = (k : Int) := by rw [← ht, hn]
  subst e
  unfold tileO
  rw [if_pos ((inR_iff _ _ _).2 ⟨by omega, by omega⟩), Int.toNat_natCast, h]
theorem tile_none {es : List Nd} {n : Nd} {t : Int} (h : ∀ x ∈ tilesL es n, x.num ≠ t) : tileO es n t = none := by
  unfold tileO
  split
  · rename_i hr
    obtain ⟨h0, h1⟩ := (inR_iff _ _ _).1 hr
    cases hm : mt es n t.toNat with
    | none => rfl
    | some x =>
      exact absurd (by rw [mt_num hm]; omega) (h x (by unfold tilesL; rw [List.mem_filterMap]; exact ⟨t.toNat, List.mem_range.2 (by omega), hm⟩))
  · rfl

def plainT (n : Nd) : Ti :=
  if isIn n.op = true then ⟨0, [], [], 0⟩ else if isConst n.op = true then ⟨1, [], [], 1⟩ else ⟨1 + (parts n).length, parts n, [], cst n.op⟩

theorem one_cst {s : ByteArray} (h : isOne s = true) : cst s = 1 := by
  have h' : s.toList = [110,111,116] ∨ s.toList = [110,101,103] := by simpa [isOne] using h
  rcases h' with h' | h' <;> simp [cst, h']
theorem range13 {α : Type} (f : Nat → Option α) : (List.range 13).filterMap f = ([0, 1, 2, 3].filterMap f) ++ ([0, 1, 2, 3, 4, 5, 6, 7, 8].filterMap fun k => f (k + 4)) := by
  have : List.range 13 = [0, 1, 2, 3] ++ [0, 1, 2, 3, 4, 5, 6, 7, 8].map (· + 4) := by decide
  rw [this, List.filterMap_append, List.filterMap_map]; rfl
theorem fos_map (es : List Nd) (n : Nd) : ([0, 1, 2, 3, 4, 5, 6, 7, 8].filterMap fun k => mt es n (k + 4)) = fos.filterMap (foO es n) := by
  have : fos = [0, 1, 2, 3, 4, 5, 6, 7, 8].filterMap fun k => fos[k]? := by rfl
  conv => rhs; rw [this, List.filterMap_filterMap]
  rfl
theorem prog_tiles {es : List Nd} {n : Nd} {i : Int} (h : isNode n i = true) : plainT n :: fos.filterMap (foO es n) = tilesL es n := by
  unfold tilesL
  rw [range13, fos_map]
  have : plainT n :: fos.filterMap (foO es n) = [plainT n] ++ fos.filterMap (foO es n) := rfl
  rw [this]
  congr 1
  rcases node_kinds h with ⟨h1, _⟩ | ⟨h1, h2, _⟩ | ⟨h1, h2, h3, h4, _⟩ | ⟨h1, h2, h3, h4, _⟩
  · have e1 : isIn n.op = false := by simp [isIn, h1]
    have e2 : isConst n.op = true := by simp [isConst, h1]
    have e3 : isOne n.op = false := by simp [isOne, h1]
    have e4 : isTwo n.op = false := by simp [isTwo, twoOps, h1]
    simp [plainT, mt, e1, e2, e3, e4]
  · have e1 : isIn n.op = true := by simp [isIn, h1]
    have e2 : isConst n.op = false := by simp [isConst, h1]
    have e3 : isOne n.op = false := by simp [isOne, h1]
    have e4 : isTwo n.op = false := by simp [isTwo, twoOps, h1]
    simp [plainT, mt, e1, e2, e3, e4]
  · have e1 : isIn n.op = false := h2
    have e2 : isConst n.op = false := h1
    simp [plainT, mt, e1, e2, h3, h4, parts, one_cst h3]
  · have e1 : isIn n.op = false := h2
    have e2 : isConst n.op = false := h1
    simp [plainT, mt, e1, e2, h3, h4, parts]

/- What bounds a tile. -/
def TiBd (x : Ti) (i : Int) : Prop := x.ps.length ≤ 2 ∧ x.ins.length ≤ 2 ∧ 0 ≤ x.c ∧ x.c ≤ 4 ∧ ∀ p ∈ x.ps, 0 ≤ p ∧ p < i
theorem two_of_has {f : Fo} (hf : f ∈ fos) {s : ByteArray} (h : hasS f.ops s = true) : isTwo s = true := by
  unfold hasS at h
  rw [List.any_eq_true] at h
  obtain ⟨t, ht, h⟩ := h
  have h' : s.toList = t.toList := by rw [beq_iff_eq] at h; exact h.symm
  have : ∀ f ∈ fos, ∀ t ∈ f.ops, isTwo t = true := by decide +kernel
  have h2 := this f hf t ht
  unfold isTwo at h2 ⊢; rw [h']; exact h2
theorem two_of_btw {f : Fo} (hf : f ∈ fos) (hn : noBtw f = false) : isTwo f.btw = true := by
  have : ∀ f ∈ fos, noBtw f = false → isTwo f.btw = true := by decide +kernel
  exact this f hf hn
theorem two_bd {n : Nd} {i : Int} (h : isNode n i = true) (ht : isTwo n.op = true) : 0 ≤ n.a ∧ n.a < i ∧ 0 ≤ n.b ∧ n.b < i := by
  have hp := isNode_parts h
  have h1 : isOne n.op = false := two_not_one _ ht
  simp [parts, h1, ht] at hp
  omega
end Go.Proofs.Ytmhdijklindipaa
