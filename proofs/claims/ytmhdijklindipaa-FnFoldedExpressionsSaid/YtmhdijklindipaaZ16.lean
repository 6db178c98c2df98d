/- Texts of this proof, one behind the other: EA, EN, EB, EO, CHI. -/
import Derived.Test.YtmhdijklindipaaZ17
import Derived.Test.YtmhdijklindipaaK
import Derived.WalkKit
import Derived.Lib.Hide
import Derived.Test.YtmhdijklindipaaLI
import Derived.WalkSpells
import Derived.WalkLawsBesides
import Derived.Test.YtmhdijklindipaaV
import Derived.Test.YtmhdijklindipaaB2
import Derived.BigRegion
import Derived.BigQuiet
import Derived.Test.YtmhdijklindipaaCB
import Derived.Test.YtmhdijklindipaaCF
import Derived.Test.YtmhdijklindipaaCG
import Derived.Deep.QuietTactic
import Derived.Deep.RegionLaw
import Derived.Deep.RegionHeld3
/- Chapter 5, plain: the tiles at a node. No program is walked here. -/
namespace Go.Proofs.Ytmhdijklindipaa
open Go.RowKit
set_option linter.unusedVariables false

structure Ti where
  num : Int
  ps : List Int
  ins : List Int
  c : Int

structure Fo where
  num : Int
  ops : List ByteArray
  btw : ByteArray
  fst : Bool
  ws : List Int

def oAdd : ByteArray := ⟨#[97,100,100]⟩
def oSub : ByteArray := ⟨#[115,117,98]⟩
def oMul : ByteArray := ⟨#[109,117,108]⟩
def oAnd : ByteArray := ⟨#[97,110,100]⟩
def oXor : ByteArray := ⟨#[120,111,114]⟩
def oShl : ByteArray := ⟨#[115,104,108]⟩
def oShr : ByteArray := ⟨#[115,104,114]⟩
def oNo : ByteArray := ⟨#[]⟩

def fos : List Fo := [
  ⟨4, [oAdd, oSub, oAnd, oXor], oNo, false, []⟩,
  ⟨5, [oAdd, oAnd, oXor], oNo, true, []⟩,
  ⟨6, [oShl, oShr], oNo, false, [1, 2, 3, 4, 5]⟩,
  ⟨7, [oMul], oNo, false, [2, 4, 8, 16, 32]⟩,
  ⟨8, [oMul], oNo, true, [2, 4, 8, 16, 32]⟩,
  ⟨9, [oAdd], oShl, false, [1, 2, 3]⟩,
  ⟨10, [oAdd], oShl, true, [1, 2, 3]⟩,
  ⟨11, [oAdd], oMul, false, [2, 4, 8]⟩,
  ⟨12, [oAdd], oMul, true, [2, 4, 8]⟩]

def nodeAt (es : List Nd) (k : Int) : Nd := es.getD k.toNat zeroNd
theorem nodeAt_nat {es : List Nd} {k : Nat} (h : k < es.length) : nodeAt es (k : Int) = es[k] := by
  unfold nodeAt; rw [Int.toNat_natCast, List.getD_eq_getElem?_getD, List.getElem?_eq_getElem h]; rfl
def takes (f : Fo) (n : Nd) : Bool := isConst n.op && (f.ws.length == 0 || hasI f.ws n.v)
def fPart (f : Fo) (n : Nd) : Int := if f.fst = true then n.b else n.a
def fTaken (f : Fo) (n : Nd) : Int := if f.fst = true then n.a else n.b
def noBtw (f : Fo) : Bool := f.btw.toList == []
def foTi (es : List Nd) (f : Fo) (n : Nd) : Ti :=
  if noBtw f = true then ⟨f.num, [fPart f n], [fTaken f n], 1⟩
  else ⟨f.num, [fPart f n, (nodeAt es (fTaken f n)).a], [(nodeAt es (fTaken f n)).b, fTaken f n], 1⟩
def foOk (es : List Nd) (f : Fo) (n : Nd) : Bool :=
  hasS f.ops n.op && (if noBtw f = true then takes f (nodeAt es (fTaken f n))
    else (nodeAt es (fTaken f n)).op.toList == f.btw.toList && takes f (nodeAt es (nodeAt es (fTaken f n)).b))
def foO (es : List Nd) (n : Nd) (f : Fo) : Option Ti := if foOk es f n = true then some (foTi es f n) else none

/-- The tile t at a node, if it is told for it. -/
def mt (es : List Nd) (n : Nd) : Nat → Option Ti
  | 0 => if isIn n.op = true then some ⟨0, [], [], 0⟩ else none
  | 1 => if isConst n.op = true then some ⟨1, [], [], 1⟩ else none
  | 2 => if isOne n.op = true then some ⟨2, [n.a], [], 1⟩ else none
  | 3 => if isTwo n.op = true then some ⟨3, [n.a, n.b], [], cst n.op⟩ else none
  | k + 4 => (fos[k]?).bind (foO es n)
def tilesL (es : List Nd) (n : Nd) : List Ti := (List.range 13).filterMap (mt es n)
def tileO (es : List Nd) (n : Nd) (t : Int) : Option Ti := if inR t 0 12 = true then mt es n t.toNat else none

theorem foO_num {es : List Nd} {n : Nd} {f : Fo} {x : Ti} (h : foO es n f = some x) : x.num = f.num := by
  unfold foO at h
  split at h
  · injection h with h; subst h; unfold foTi; split <;> rfl
  · cases h
theorem fos_num : ∀ (k : Nat) (f : Fo), fos[k]? = some f → f.num = (k : Int) + 4 := by
  intro k f h
  have hk : k < 9 := by
    rcases Nat.lt_or_ge k 9 with h9 | h9
    · exact h9
    · rw [List.getElem?_eq_none (by simpa [fos] using h9)] at h; cases h
  match k, hk with
  | 0, _ | 1, _ | 2, _ | 3, _ | 4, _ | 5, _ | 6, _ | 7, _ | 8, _ => simp [fos] at h; subst h; rfl
theorem mt_num {es : List Nd} {n : Nd} {k : Nat} {x : Ti} (h : mt es n k = some x) : x.num = k := by
  match k with
  | 0 => simp only [mt] at h; split at h <;> simp at h; subst h; rfl
  | 1 => simp only [mt] at h; split at h <;> simp at h; subst h; rfl
  | 2 => simp only [mt] at h; split at h <;> simp at h; subst h; rfl
  | 3 => simp only [mt] at h; split at h <;> simp at h; subst h; rfl
  | k + 4 =>
    simp only [mt, Option.bind_eq_some_iff] at h
    obtain ⟨f, hf, h⟩ := h
    rw [foO_num h, fos_num _ _ hf]; omega
theorem tiles_mem {es : List Nd} {n : Nd} {x : Ti} (h : x ∈ tilesL es n) : ∃ k, k < 13 ∧ mt es n k = some x := by
  unfold tilesL at h
  rw [List.mem_filterMap] at h
  obtain ⟨k, hk, h⟩ := h
  exact ⟨k, List.mem_range.1 hk, h⟩
theorem tile_of_mem {es : List Nd} {n : Nd} {x : Ti} {t : Int} (h : x ∈ tilesL es n) (ht : x.num = t) : tileO es n t = some x := by
  obtain ⟨k, hk, h⟩ := tiles_mem h
  have hn := mt_num h
  have e : t = (k : Int) := by rw [← ht, hn]
  subst e
  unfold tileO
  rw [if_pos ((inR_iff _ _ _).2 ⟨by omega, by omega⟩), Int.toNat_natCast, h]
theorem tile_none {es : List Nd} {n : Nd} {t : Int} (h : ∀ x ∈ tilesL es n, x.num ≠ t) : tileO es n t = none := by
  unfold tileO
  split
  · rename_i hr
    obtain ⟨h0, h1⟩ := (inR_iff _ _ _).1 hr
    cases hm : mt es n t.toNat with
    | none => rfl
    | some x =>
      exact absurd (by rw [mt_num hm]; omega) (h x (by unfold tilesL; rw [List.mem_filterMap]; exact ⟨t.toNat, List.mem_range.2 (by omega), hm⟩))
  · rfl

def plainT (n : Nd) : Ti :=
  if isIn n.op = true then ⟨0, [], [], 0⟩ else if isConst n.op = true then ⟨1, [], [], 1⟩ else ⟨1 + (parts n).length, parts n, [], cst n.op⟩

theorem one_cst {s : ByteArray} (h : isOne s = true) : cst s = 1 := by
  have h' : s.toList = [110,111,116] ∨ s.toList = [110,101,103] := by simpa [isOne] using h
  rcases h' with h' | h' <;> simp [cst, h']
theorem range13 {α : Type} (f : Nat → Option α) : (List.range 13).filterMap f = ([0, 1, 2, 3].filterMap f) ++ ([0, 1, 2, 3, 4, 5, 6, 7, 8].filterMap fun k => f (k + 4)) := by
  have : List.range 13 = [0, 1, 2, 3] ++ [0, 1, 2, 3, 4, 5, 6, 7, 8].map (· + 4) := by decide
  rw [this, List.filterMap_append, List.filterMap_map]; rfl
theorem fos_map (es : List Nd) (n : Nd) : ([0, 1, 2, 3, 4, 5, 6, 7, 8].filterMap fun k => mt es n (k + 4)) = fos.filterMap (foO es n) := by
  have : fos = [0, 1, 2, 3, 4, 5, 6, 7, 8].filterMap fun k => fos[k]? := by rfl
  conv => rhs; rw [this, List.filterMap_filterMap]
  rfl
theorem prog_tiles {es : List Nd} {n : Nd} {i : Int} (h : isNode n i = true) : plainT n :: fos.filterMap (foO es n) = tilesL es n := by
  unfold tilesL
  rw [range13, fos_map]
  have : plainT n :: fos.filterMap (foO es n) = [plainT n] ++ fos.filterMap (foO es n) := rfl
  rw [this]
  congr 1
  rcases node_kinds h with ⟨h1, _⟩ | ⟨h1, h2, _⟩ | ⟨h1, h2, h3, h4, _⟩ | ⟨h1, h2, h3, h4, _⟩
  · have e1 : isIn n.op = false := by simp [isIn, h1]
    have e2 : isConst n.op = true := by simp [isConst, h1]
    have e3 : isOne n.op = false := by simp [isOne, h1]
    have e4 : isTwo n.op = false := by simp [isTwo, twoOps, h1]
    simp [plainT, mt, e1, e2, e3, e4]
  · have e1 : isIn n.op = true := by simp [isIn, h1]
    have e2 : isConst n.op = false := by simp [isConst, h1]
    have e3 : isOne n.op = false := by simp [isOne, h1]
    have e4 : isTwo n.op = false := by simp [isTwo, twoOps, h1]
    simp [plainT, mt, e1, e2, e3, e4]
  · have e1 : isIn n.op = false := h2
    have e2 : isConst n.op = false := h1
    simp [plainT, mt, e1, e2, h3, h4, parts, one_cst h3]
  · have e1 : isIn n.op = false := h2
    have e2 : isConst n.op = false := h1
    simp [plainT, mt, e1, e2, h3, h4, parts]

/- What bounds a tile. -/
def TiBd (x : Ti) (i : Int) : Prop := x.ps.length ≤ 2 ∧ x.ins.length ≤ 2 ∧ 0 ≤ x.c ∧ x.c ≤ 4 ∧ ∀ p ∈ x.ps, 0 ≤ p ∧ p < i
theorem two_of_has {f : Fo} (hf : f ∈ fos) {s : ByteArray} (h : hasS f.ops s = true) : isTwo s = true := by
  unfold hasS at h
  rw [List.any_eq_true] at h
  obtain ⟨t, ht, h⟩ := h
  have h' : s.toList = t.toList := by rw [beq_iff_eq] at h; exact h.symm
  have : ∀ f ∈ fos, ∀ t ∈ f.ops, isTwo t = true := by decide +kernel
  have h2 := this f hf t ht
  unfold isTwo at h2 ⊢; rw [h']; exact h2
theorem two_of_btw {f : Fo} (hf : f ∈ fos) (hn : noBtw f = false) : isTwo f.btw = true := by
  have : ∀ f ∈ fos, noBtw f = false → isTwo f.btw = true := by decide +kernel
  exact this f hf hn
theorem two_bd {n : Nd} {i : Int} (h : isNode n i = true) (ht : isTwo n.op = true) : 0 ≤ n.a ∧ n.a < i ∧ 0 ≤ n.b ∧ n.b < i := by
  have hp := isNode_parts h
  have h1 : isOne n.op = false := two_not_one _ ht
  simp [parts, h1, ht] at hp
  omega
end Go.Proofs.Ytmhdijklindipaa

/- cvConst, cvWords, cvTree, cvCost of the model. -/
namespace Go.Proofs.Ytmhdijklindipaa
open Go.RowKit
set_option linter.unusedVariables false

def kon (xs : List Int) (n : Nd) : Bool := isConst n.op && hasI xs n.v
def BoolB (w : World) (x : Bool) (e : Ending) (w' : World) : Prop := e = .returned (.bool x) ∧ Below w.heap.size w w'
def wordsTo (k : Nat) : List Int := (List.range k).map fun (i : Nat) => (i : Int)
theorem wordsTo_succ (k : Nat) : wordsTo (k + 1) = wordsTo k ++ [(k : Int)] := by simp [wordsTo, List.range_succ]
theorem wordsTo_len (k : Nat) : (wordsTo k).length = k := by simp [wordsTo]
def OwnRet (w : World) (xs : List Int) (e : Ending) (w' : World) : Prop := ∃ A c, e = .returned (.slice A xs.length c) ∧ OW w' w.heap.size w'.heap.size (.slice A xs.length c) xs ∧ Below w.heap.size w w'
end Go.Proofs.Ytmhdijklindipaa

/- slices.Contains over strings; tiles and forms in memory. -/
namespace Go.Proofs.Ytmhdijklindipaa
open Go.RowKit
set_option linter.unusedVariables false

def encS (s : ByteArray) : List Value := [.string s]
def SS (w : World) (L B : Nat) (A : Option Addr) (ss : List ByteArray) : Prop := RS encS 1 w L B A ss
theorem SS.at_ {w : World} {L B : Nat} {A : Option Addr} {ss : List ByteArray} (h : SS w L B A ss) {k : Nat} (hk : k < ss.length) : ∃ b o, A = some ⟨b, o, none⟩ ∧ (L ≤ b ∧ b < B) ∧ w.cell? ⟨b, o + k, none⟩ = some (.string ss[k]) := by
  obtain ⟨b, o, e, hb, hc⟩ := h (by omega)
  have := hc k hk 0 (.string ss[k]) rfl
  exact ⟨b, o, e, hb, by simpa using this⟩
theorem hasS_snoc {ss : List ByteArray} {s : ByteArray} {k : Nat} (hlt : k < ss.length) : hasS (ss.take (k+1)) s = (hasS (ss.take k) s || (s.toList == ss[k].toList)) := by
  have e : (ss[k].toList == s.toList) = (s.toList == ss[k].toList) := by rw [Bool.eq_iff_iff, beq_iff_eq, beq_iff_eq]; exact ⟨Eq.symm, Eq.symm⟩
  unfold hasS; rw [List.take_succ_eq_append_getElem hlt, List.any_append, ← e]; simp
theorem hasS_of {ss : List ByteArray} {s : ByteArray} {k : Nat} (h : hasS (ss.take k) s = true) : hasS ss s = true := by
  unfold hasS at h ⊢; rw [List.any_eq_true] at h ⊢; obtain ⟨x, hx, h⟩ := h; exact ⟨x, List.mem_of_mem_take hx, h⟩
def SomeIdxS (ss : List ByteArray) (s : ByteArray) (w : World) (e : Ending) (w' : World) : Prop := ∃ k : Int, e = .returned (.int .i64 k) ∧ decide (0 ≤ k) = hasS ss s ∧ w = w'
/-- A tile's cells as they lie. -/
structure Rt where
  num : Int
  p : Value
  q : Value
  c : Int
def Rt.enc (r : Rt) : List Value := [.int .i64 r.num, r.p, r.q, .int .i64 r.c]
theorem rt4 (r : Rt) : r.enc.length = 4 := rfl
/-- What a tile's cells stand for. -/
def RtOk (w : World) (L B : Nat) (r : Rt) (t : Ti) : Prop := r.num = t.num ∧ r.c = t.c ∧ OW w L B r.p t.ps ∧ OW w L B r.q t.ins
theorem RtOk.below {w w' : World} {L B C : Nat} {r : Rt} {t : Ti} (h : RtOk w L B r t) (hb : Below C w w') (hC : B ≤ C) : RtOk w' L B r t := ⟨h.1, h.2.1, h.2.2.1.below hb hC, h.2.2.2.below hb hC⟩
theorem RtOk.kept {w w' : World} {L B : Nat} {r : Rt} {t : Ti} {row : Option Nat} (h : RtOk w L B r t) (hg : w.grownBy w' row) (hne : ∀ k, row = some k → k < L ∨ B ≤ k) : RtOk w' L B r t := ⟨h.1, h.2.1, h.2.2.1.kept hg hne, h.2.2.2.kept hg hne⟩
theorem RtOk.more {w : World} {L B L' B' : Nat} {r : Rt} {t : Ti} (h : RtOk w L B r t) (h1 : L' ≤ L) (h2 : B ≤ B') : RtOk w L' B' r t := ⟨h.1, h.2.1, (h.2.2.1.lower h1).more h2, (h.2.2.2.lower h1).more h2⟩
theorem RtOk.form {w : World} {L B : Nat} {r : Rt} {t : Ti} (h : RtOk w L B r t) : ∃ PA pc QA qc, r = ⟨t.num, .slice PA t.ps.length pc, .slice QA t.ins.length qc, t.c⟩ ∧ OW w L B (.slice PA t.ps.length pc) t.ps ∧ OW w L B (.slice QA t.ins.length qc) t.ins := by
  obtain ⟨n, p, q, c⟩ := r
  obtain ⟨h1, h2, h3, h4⟩ := h
  obtain ⟨PA, pc, rfl, _⟩ := h3.form
  obtain ⟨QA, qc, rfl, _⟩ := h4.form
  obtain rfl : n = t.num := h1
  obtain rfl : c = t.c := h2
  exact ⟨PA, pc, QA, qc, rfl, h3, h4⟩
/-- A list of tiles, all their slices in [L, B). -/
def AllOk (w : World) (L B : Nat) (rs : List Rt) (ts : List Ti) : Prop := rs.length = ts.length ∧ ∀ k (h : k < rs.length) (h' : k < ts.length), RtOk w L B rs[k] ts[k]
theorem AllOk.below {w w' : World} {L B C : Nat} {rs : List Rt} {ts : List Ti} (h : AllOk w L B rs ts) (hb : Below C w w') (hC : B ≤ C) : AllOk w' L B rs ts := ⟨h.1, fun k h1 h2 => (h.2 k h1 h2).below hb hC⟩
theorem AllOk.more {w : World} {L B L' B' : Nat} {rs : List Rt} {ts : List Ti} (h : AllOk w L B rs ts) (h1 : L' ≤ L) (h2 : B ≤ B') : AllOk w L' B' rs ts := ⟨h.1, fun k h3 h4 => (h.2 k h3 h4).more h1 h2⟩
theorem AllOk.snoc {w : World} {L B : Nat} {rs : List Rt} {ts : List Ti} {r : Rt} {t : Ti} (h : AllOk w L B rs ts) (hr : RtOk w L B r t) : AllOk w L B (rs ++ [r]) (ts ++ [t]) := by
  refine ⟨by simp [h.1], fun k h1 h2 => ?_⟩
  by_cases hk : k < rs.length
  · rw [List.getElem_append_left hk, List.getElem_append_left (by have := h.1; omega)]; exact h.2 k hk _
  · have e : k = rs.length := by simp at h1; omega
    have e2 : k = ts.length := by rw [← h.1]; exact e
    rw [List.getElem_append_right (by omega), List.getElem_append_right (by omega)]
    simp [e, h.1]; exact hr
/-- The program's list of tiles, as a call returns it. -/
def TilesAre (w : World) (ts : List Ti) (e : Ending) (w' : World) : Prop :=
  ∃ A c rs, e = .returned (.slice A ts.length c) ∧ RS Rt.enc 4 w' w.heap.size w'.heap.size A rs ∧ AllOk w' w.heap.size w'.heap.size rs ts ∧ Below w.heap.size w w'
end Go.Proofs.Ytmhdijklindipaa

/- What cvTile of the model hands back. -/
namespace Go.Proofs.Ytmhdijklindipaa
open Go.RowKit
set_option linter.unusedVariables false
set_option linter.unusedSimpArgs false

def TileM (w : World) (o : Option Ti) (e : Ending) (w' : World) : Prop :=
  ∃ PA pc QA qc, e = .returned (.tuple #[.slice PA ((o.map Ti.ps).getD []).length pc, .slice QA ((o.map Ti.ins).getD []).length qc, .bool o.isSome]) ∧
    OW w' w.heap.size w'.heap.size (.slice PA ((o.map Ti.ps).getD []).length pc) ((o.map Ti.ps).getD []) ∧ OW w' w.heap.size w'.heap.size (.slice QA ((o.map Ti.ins).getD []).length qc) ((o.map Ti.ins).getD []) ∧ Below w.heap.size w w'
theorem hasS_new (ss : List ByteArray) (hl : ss.length ≤ 1000) (W : World) (g : Nat) (hg : W.heap.size = g) (cs : Array Value) (hcs : cs = (ss.flatMap encS).toArray) (t : TypeId) (n c : Nat) (hn : n = ss.length) (s : ByteArray) :
    Calls Try.prog 232 #[.slice (some ⟨g, 0, none⟩) n c, .string s] (W.alloc (.cells cs t)) fun e w' => e = .returned (.bool (hasS ss s)) ∧ W.alloc (.cells cs t) = w' := by
  subst hg; subst hcs; subst hn
  refine l1HasS_any W.heap.size 0 c ss s _ hl (fun k h => ?_)
  have hk : KB encS t (W.alloc (.cells (ss.flatMap encS).toArray t)) W.heap.size ss := heap_alloc_new W _
  have := hk.cell (k := 1) (fun _ => rfl) k h 0 (.string ss[k]) rfl
  simpa using this
theorem hasS_at (ss : List ByteArray) (hl : ss.length ≤ 1000) (W : World) (g : Nat) (t : TypeId) (h : KB encS t W g ss) (n c : Nat) (hn : n = ss.length) (s : ByteArray) :
    Calls Try.prog 232 #[.slice (some ⟨g, 0, none⟩) n c, .string s] W fun e w' => e = .returned (.bool (hasS ss s)) ∧ W = w' := by
  subst hn
  refine l1HasS_any g 0 c ss s _ hl (fun k hk => ?_)
  have := h.cell (k := 1) (fun _ => rfl) k hk 0 (.string ss[k]) rfl
  simpa using this
theorem kbS {w : World} (o : Obj) (ss : List ByteArray) (cs : Array Value) (hcs : cs = (ss.flatMap encS).toArray) (t : TypeId) : KB encS t ((w.alloc o).alloc (.cells cs t)) (w.heap.size + 1) ss := by
  subst hcs
  have := heap_alloc_new (w.alloc o) (.cells (ss.flatMap encS).toArray t)
  rw [World.size_alloc] at this
  exact this
theorem hasS_mul (s : ByteArray) : hasS [oMul] s = (s.toList == [109,117,108]) := by
  have e : oMul.toList = [109,117,108] := by decide +kernel
  unfold hasS
  simp only [List.any_cons, List.any_nil, Bool.or_false, e]
  rw [Bool.eq_iff_iff, beq_iff_eq, beq_iff_eq]; exact ⟨Eq.symm, Eq.symm⟩
theorem takes_kon {f : Fo} (hf : f.ws ≠ []) (n : Nd) : takes f n = kon f.ws n := by
  unfold takes kon
  cases h : f.ws with
  | nil => exact absurd h hf
  | cons a l => simp
theorem mt_fo (es : List Nd) (n : Nd) (j : Nat) (f : Fo) (hj : fos[j]? = some f) : mt es n (j + 4) = foO es n f := by
  show (fos[j]?).bind (foO es n) = _
  rw [hj]; rfl
theorem belowDrewN {B : Nat} {a w : World} (h : Below B a w) (n : Nat) : Below B a (w.drewN n) := ⟨h.os, h.tape, h.output, h.size, h.block⟩
theorem ownLit {w : World} {g L B : Nat} {cs : Array Value} (xs : List Int) (hc : cs = intCells xs) (hg : w.heap.size = g) (hl : xs.length ≤ 1000) (hL : L ≤ g) (hB : g < B) : OW (w.alloc (.cells cs 3)) L B (.slice (some ⟨g, 0, none⟩) xs.length xs.length) xs := by
  subst hg; subst hc
  exact OW.ofIB (show IB (w.alloc (.cells (intCells xs) 3)) w.heap.size 3 xs from heap_alloc_new w _) (by omega) hL hB
theorem two_lits {W : World} {L : Nat} (x y : Int) (hL : L ≤ W.heap.size) :
    OW ((W.alloc (.cells #[.int .i64 x] 3)).alloc (.cells #[.int .i64 y] 3)) L ((W.alloc (.cells #[.int .i64 x] 3)).alloc (.cells #[.int .i64 y] 3)).heap.size (.slice (some ⟨W.heap.size, 0, none⟩) 1 1) [x] ∧
    OW ((W.alloc (.cells #[.int .i64 x] 3)).alloc (.cells #[.int .i64 y] 3)) L ((W.alloc (.cells #[.int .i64 x] 3)).alloc (.cells #[.int .i64 y] 3)).heap.size (.slice (some ⟨W.heap.size + 1, 0, none⟩) 1 1) [y] ∧
    Below W.heap.size W ((W.alloc (.cells #[.int .i64 x] 3)).alloc (.cells #[.int .i64 y] 3)) := by
  have z1 := World.size_alloc W (.cells #[.int .i64 x] 3)
  have z2 := World.size_alloc (W.alloc (.cells #[.int .i64 x] 3)) (.cells #[.int .i64 y] 3)
  have b2 := (Below.refl _ (W.alloc (.cells #[.int .i64 x] 3))).alloc (Nat.le_refl _) (.cells #[.int .i64 y] 3)
  refine ⟨((ownLit (g := W.heap.size) (L := L) (B := W.heap.size + 1) [x] rfl rfl (by simp) hL (by omega)).below b2 (by omega)).more (by omega), ownLit [y] rfl z1 (by simp) (by omega) (by omega), ?_⟩
  exact ((Below.refl _ W).alloc (Nat.le_refl _) _).alloc (by omega) _
theorem TileM.yes {w w' : World} {o : Option Ti} {ps ins : List Int} {PA QA : Option Addr} {pc qc m n : Nat} (hp : (o.map Ti.ps).getD [] = ps) (hi : (o.map Ti.ins).getD [] = ins) (hs : o.isSome = true) (hm : m = ps.length) (hn : n = ins.length)
    (h1 : OW w' w.heap.size w'.heap.size (.slice PA m pc) ps) (h2 : OW w' w.heap.size w'.heap.size (.slice QA n qc) ins) (hb : Below w.heap.size w w') :
    TileM w o (.returned (.tuple #[.slice PA m pc, .slice QA n qc, .bool true])) w' := by
  subst hm hn
  unfold TileM
  rw [hp, hi, hs]
  exact ⟨_, _, _, _, rfl, h1, h2, hb⟩
theorem TileM.no {w w' : World} {b : Bool} {o : Option Ti} (hp : (o.map Ti.ps).getD [] = []) (hi : (o.map Ti.ins).getD [] = []) (hs : o.isSome = b) (hb : Below w.heap.size w w') :
    TileM w o (.returned (.tuple #[.slice none 0 0, .slice none 0 0, .bool b])) w' := by
  unfold TileM
  rw [hp, hi, hs]
  exact ⟨none, 0, none, 0, rfl, OW.nil _ _ _, OW.nil _ _ _, hb⟩
end Go.Proofs.Ytmhdijklindipaa

/- Choices: Imms of an op, equal entries. -/
namespace Go.Proofs.Ytmhdijklindipaa
open Go.RowKit
set_option linter.unusedVariables false
set_option maxRecDepth 100000

def imm7 : List ByteArray := [⟨#[115,101,116]⟩, ⟨#[97,100,100,105]⟩, ⟨#[97,110,100,105]⟩, ⟨#[120,111,114,105]⟩, ⟨#[115,104,108,105]⟩, ⟨#[115,104,114,105]⟩, ⟨#[108,101,97]⟩]
theorem immS (s : ByteArray) : hasS imm7 s = decide (0 < (fm s).hi) := by
  have e1 : (⟨#[115,101,116]⟩ : ByteArray).toList = [115,101,116] := by decide +kernel
  have e2 : (⟨#[97,100,100,105]⟩ : ByteArray).toList = [97,100,100,105] := by decide +kernel
  have e3 : (⟨#[97,110,100,105]⟩ : ByteArray).toList = [97,110,100,105] := by decide +kernel
  have e4 : (⟨#[120,111,114,105]⟩ : ByteArray).toList = [120,111,114,105] := by decide +kernel
  have e5 : (⟨#[115,104,108,105]⟩ : ByteArray).toList = [115,104,108,105] := by decide +kernel
  have e6 : (⟨#[115,104,114,105]⟩ : ByteArray).toList = [115,104,114,105] := by decide +kernel
  have e7 : (⟨#[108,101,97]⟩ : ByteArray).toList = [108,101,97] := by decide +kernel
  unfold hasS imm7
  simp only [List.any_cons, List.any_nil, Bool.or_false, e1, e2, e3, e4, e5, e6, e7]
  unfold fm
  generalize s.toList = l
  clear e1 e2 e3 e4 e5 e6 e7
  by_cases h0 : l = [115,101,116]
  · subst h0; decide +kernel
  rw [if_neg h0]
  by_cases h1 : l = [109,111,118]
  · subst h1; decide +kernel
  rw [if_neg h1]
  by_cases h2 : l = [110,111,116]
  · subst h2; decide +kernel
  rw [if_neg h2]
  by_cases h3 : l = [110,101,103]
  · subst h3; decide +kernel
  rw [if_neg h3]
  by_cases h4 : l = [97,100,100]
  · subst h4; decide +kernel
  rw [if_neg h4]
  by_cases h5 : l = [115,117,98]
  · subst h5; decide +kernel
  rw [if_neg h5]
  by_cases h6 : l = [97,110,100]
  · subst h6; decide +kernel
  rw [if_neg h6]
  by_cases h7 : l = [111,114]
  · subst h7; decide +kernel
  rw [if_neg h7]
  by_cases h8 : l = [120,111,114]
  · subst h8; decide +kernel
  rw [if_neg h8]
  by_cases h9 : l = [108,101,115,115]
  · subst h9; decide +kernel
  rw [if_neg h9]
  by_cases h10 : l = [101,113]
  · subst h10; decide +kernel
  rw [if_neg h10]
  by_cases h11 : l = [115,104,108]
  · subst h11; decide +kernel
  rw [if_neg h11]
  by_cases h12 : l = [115,104,114]
  · subst h12; decide +kernel
  rw [if_neg h12]
  by_cases h13 : l = [109,117,108]
  · subst h13; decide +kernel
  rw [if_neg h13]
  by_cases h14 : l = [97,100,100,105]
  · subst h14; decide +kernel
  rw [if_neg h14]
  by_cases h15 : l = [97,110,100,105]
  · subst h15; decide +kernel
  rw [if_neg h15]
  by_cases h16 : l = [120,111,114,105]
  · subst h16; decide +kernel
  rw [if_neg h16]
  by_cases h17 : l = [115,104,108,105]
  · subst h17; decide +kernel
  rw [if_neg h17]
  by_cases h18 : l = [115,104,114,105]
  · subst h18; decide +kernel
  rw [if_neg h18]
  by_cases h19 : l = [108,101,97]
  · subst h19; decide +kernel
  rw [if_neg h19]
  have hb : ∀ x : List UInt8, ¬ l = x → (x == l) = false := fun x h => by
    cases hx : (x == l)
    · rfl
    · exact absurd (eq_of_beq hx).symm h
  rw [hb _ h0, hb _ h14, hb _ h15, hb _ h16, hb _ h17, hb _ h18, hb _ h19]
  rfl
set_option maxHeartbeats 2000000 in
theorem cdImm_any (s : ByteArray) (w : World) : Calls Try.prog 259 #[.string s] w fun e w' => e = .returned (.bool (decide (0 < (fm s).hi))) ∧ Below w.heap.size w w' := by
  have hb := Lib.hid ((Below.refl w.heap.size w).alloc (Nat.le_refl _) (.cells #[.string ⟨#[115,101,116]⟩, .string ⟨#[97,100,100,105]⟩, .string ⟨#[97,110,100,105]⟩, .string ⟨#[120,111,114,105]⟩, .string ⟨#[115,104,108,105]⟩, .string ⟨#[115,104,114,105]⟩, .string ⟨#[108,101,97]⟩] 9))
  have H := Lib.hid (hasS_new imm7 (by decide) w w.heap.size rfl #[.string ⟨#[115,101,116]⟩, .string ⟨#[97,100,100,105]⟩, .string ⟨#[97,110,100,105]⟩, .string ⟨#[120,111,114,105]⟩, .string ⟨#[115,104,108,105]⟩, .string ⟨#[115,104,114,105]⟩, .string ⟨#[108,101,97]⟩] rfl 9 7 7 rfl s)
  rw [immS] at H
  generalize decide (0 < (fm s).hi) = r at *
  go_enter Try.func259, Try.ntmps259
  go_wp2_with (fail)
  refine H.out.mono ?_
  rintro e w2 ⟨rfl, rfl⟩
  go_wp2
  go_ret
  exact ⟨rfl, hb.out⟩
end Go.Proofs.Ytmhdijklindipaa
