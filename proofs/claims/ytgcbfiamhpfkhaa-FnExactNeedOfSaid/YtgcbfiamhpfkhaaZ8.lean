/- Texts of this proof, one behind the other: K4, TB, TC, GD, GA, TP. -/
import Derived.Test.YtgcbfiamhpfkhaaK3
import Derived.WalkKit
import Derived.WalkSpells
import Derived.WalkLawsBesides
import Derived.Lib.Hide
import Derived.Test.YtgcbfiamhpfkhaaZ10
import Derived.Test.YtgcbfiamhpfkhaaZ17
import Derived.Outline
import Derived.Lib.JoinLaws
import Derived.Lib.AppendZeros
import Derived.Test.YtgcbfiamhpfkhaaZ9
import Derived.Test.YtgcbfiamhpfkhaaEA
import Derived.RangeFuncNested
import Derived.RangeFuncBound
import Derived.RangeFuncCalls
import Derived.RangeFuncLeaves
import Derived.RangeFuncBox
import Derived.Shelf.Abstract
import Derived.Shelf.RegionOpen
import Derived.OwnWalkIn
import Derived.TacticsInMore
import Derived.LoopNIn
import Derived.LoopIn
namespace Go.Proofs.Ytgcbfiamhpfkhaa
open Go.RowKit
set_option linter.unusedVariables false

theorem evalR_of {es : List Nd} {x0 x1 : Int} (h : valsOk es x0 x1 = true) : evalR es x0 x1 = (vals es x0 x1).getD (es.length - 1) 0 := by simp [evalR, h]

theorem okParts {es : List Nd} {x0 x1 : Int} (hv : valsOk es x0 x1 = false) : good es = false ∨ (good es = true ∧ isW x0 = false) ∨ (good es = true ∧ isW x0 = true ∧ isW x1 = false) := by
  cases h1 : good es <;> cases h2 : isW x0 <;> cases h3 : isW x1 <;> simp [valsOk, h1, h2, h3] at hv ⊢

end Go.Proofs.Ytgcbfiamhpfkhaa

namespace Go.Proofs.Ytgcbfiamhpfkhaa
open Go.RowKit
set_option linter.unusedVariables false
set_option maxRecDepth 100000

/-- The value of an expression. -/
def at2 (es : List Nd) (x0 x1 : Int) : Int := (vals es x0 x1).getD (es.length - 1) 0
def tab (es : List Nd) : List Int := tabTo (at2 es) 4096
def tabR (es : List Nd) : List Int := if good es = true then tab es else []
theorem tabR_len (es : List Nd) : (tabR es).length ≤ 1048576 := by
  unfold tabR; split
  · unfold tab; rw [tabTo_len]; omega
  · simp

end Go.Proofs.Ytgcbfiamhpfkhaa

namespace Go.Proofs.Ytgcbfiamhpfkhaa
open Go.RowKit
set_option linter.unusedVariables false
set_option maxRecDepth 100000

/-- One int appended where there is room. -/
theorem append_room_int {w : World} {g r : Nat} {xs : List Int} (hib : IB w g 3 (xs ++ zeros (r + 1))) (ty : TypeId) (cap : Nat) (hcap : xs.length + 1 ≤ cap) (a : Nat) (x : Int) (ha : w.cell? ⟨a, 0, none⟩ = some (.int .i64 x)) :
    (Builtin.append_ #[23, 23] ty #[.slice (some ⟨g, 0, none⟩) xs.length cap, .slice (some ⟨a, 0, none⟩) 1 1]).run Try.prog w = .ok (.slice (some ⟨g, 0, none⟩) (xs.length + 1) cap) (w.setCell ⟨g, xs.length, none⟩ (.int .i64 x)) := by
  obtain ⟨i0, hi, hz0, hz1, hz2⟩ := info_parts Try.infoInt
  have h := run_append_room_cells (P := Try.prog) (w := w) 23 ty 3 i0 Try.underlying23 hi g 0 xs.length cap ⟨a, 0, none⟩ 1 1 [.int .i64 x] (by rw [hz1]; rfl)
    (fun j u hj => by
      match j, hj with
      | 0, hj => simp at hj; subst hj; simpa [Addr.add] using ha)
    (one1 x) hcap
    (fun j hj => by
      obtain rfl : j = 0 := by simpa using hj
      rw [hz1, Nat.zero_add, Nat.mul_one, Nat.add_zero, hib.cell xs.length (by simp [zeros])]; rfl)
    (fun j hj => hib.frozen _)
  rw [hz1, Nat.zero_add, Nat.mul_one] at h
  exact h
theorem room_set {w : World} {g r : Nat} {xs : List Int} (h : IB w g 3 (xs ++ zeros (r + 1))) (x : Int) : IB (w.setCell ⟨g, xs.length, none⟩ (.int .i64 x)) g 3 ((xs ++ [x]) ++ zeros r) := by
  have := h.set xs.length x
  rwa [List.set_append_right _ _ (Nat.le_refl _), Nat.sub_self, show zeros (r + 1) = 0 :: zeros r from rfl, List.set_cons_zero, List.append_cons] at this
theorem room_ow {w : World} {g r lo hi : Nat} {xs : List Int} (h : IB w g 3 (xs ++ zeros r)) (hlo : lo ≤ g) (hhi : g < hi) (hl : xs.length + r ≤ 1000000) : OW w lo hi (.slice (some ⟨g, 0, none⟩) xs.length (xs.length + r)) xs :=
  ⟨⟨by simp, .inr ⟨g, xs.length + r, intCells (xs ++ zeros r), rfl, hlo, h, by omega, by unfold maxLen; omega, by simp [intCells, zeros], by simp [intCells]⟩⟩,
   fun k hk => by simp [Value.ownBlock] at hk; omega⟩

theorem IB.other {w : World} {g q : Nat} {t : TypeId} {xs : List Int} (h : IB w g t xs) (j : Nat) (x : Value) (hne : q ≠ g) : IB (w.setCell ⟨q, j, none⟩ x) g t xs :=
  (Below.heap_setCell w ⟨q, j, none⟩ x g (by simpa using fun e => hne e.symm)).trans h

end Go.Proofs.Ytgcbfiamhpfkhaa

/- openCover and layTile of the program. -/
namespace Go.Proofs.Ytgcbfiamhpfkhaa
open Go.RowKit
set_option linter.unusedVariables false
set_option maxRecDepth 100000

def opn (n : Nat) : List Int := (List.replicate n (-1)).set (n - 1) (-2)
theorem opn_len (n : Nat) : (opn n).length = n := by simp [opn]

set_option maxHeartbeats 4000000 in
theorem openCover_any (A : Option Addr) (c n : Nat) (w : World) (h1 : 1 ≤ n) (hn : n ≤ 24) :
    Calls Try.prog 120 #[.slice A n c] w (OwnB w n (opn n)) := by
  have hC : Hid ((w.alloc (.cells #[.int .i64 (-1)] 3)).cell? ⟨w.heap.size, 0, none⟩ = some (.int .i64 (-1))) := by
    have h : IB (w.alloc (.cells #[.int .i64 (-1)] 3)) w.heap.size 3 [-1] := heap_alloc_new w _
    exact h.cell 0 (by simp)
  have hR := Lib.hid (repeat_any w.heap.size 1 n (w.alloc (.cells #[.int .i64 (-1)] 3)) h1 hn hC.out (by simp))
  have hB := Lib.hid ((Below.refl w.heap.size w).alloc (Nat.le_refl _) (.cells #[.int .i64 (-1)] 3))
  obtain ⟨m, rfl⟩ : ∃ m, n = m + 1 := ⟨n - 1, by omega⟩
  have hO : Hid (opn (m + 1) = (List.replicate (m + 1) (-1)).set m (-2)) := rfl
  generalize opn (m + 1) = o at *
  have hl : (List.replicate (m + 1) (-1 : Int)).length = m + 1 := List.length_replicate
  generalize List.replicate (m + 1) (-1 : Int) = rs at *
  have hm0 : (0 : Int) ≤ (m : Int) := by omega
  have hm1 : (m : Int) < (m : Int) + 1 := by omega
  have hmw : IntKind.i64.wrap (m : Int) = (m : Int) := by rw [IntKind.wrap_i64]; omega
  have hcm : ((m + 1 : Nat) : Int) = (m : Int) + 1 := by omega
  rw [hcm] at hR
  go_enter Try.func120, Try.ntmps120
  go_wp2_with (fail)
  refine hR.out.mono ?_
  rintro e w2 ⟨g, rfl, hg, hib, hb⟩
  have hc := hib.cell m (by omega)
  have hf := hib.frozen m
  have hgw : w.heap.size ≤ g := by rw [World.size_alloc] at hg; omega
  have hI := Lib.hid (hib.set m (-2))
  have hB2 := Lib.hid ((hB.out.trans (hb.mono hB.out.size)).setCell (p := ⟨g, m, none⟩) hgw (.int .i64 (-2)))
  generalize rs[m]'(by omega) = old at *
  clear hib hb
  go_wp2
  go_ret
  exact ⟨g, rfl, hgw, by rw [hO.out]; exact hI.out, hB2.out⟩

/-- A tile laid: its number at its node, its parts wait. -/
def layTo (xs : List Int) (k : Nat) (num : Int) (ps : List Int) (j : Nat) : List Int := (ps.take j).foldl (fun c p => c.set p.toNat (-2)) (xs.set k num)
theorem layTo_zero (xs : List Int) (k : Nat) (num : Int) (ps : List Int) : layTo xs k num ps 0 = xs.set k num := rfl
theorem layTo_succ (xs : List Int) (k : Nat) (num : Int) {ps : List Int} {j : Nat} (h : j < ps.length) : layTo xs k num ps (j + 1) = (layTo xs k num ps j).set ps[j].toNat (-2) := by
  unfold layTo; rw [List.take_succ_eq_append_getElem h, List.foldl_append]; rfl
theorem layTo_len (xs : List Int) (k : Nat) (num : Int) (ps : List Int) : ∀ j, (layTo xs k num ps j).length = xs.length := by
  intro j
  unfold layTo
  generalize ps.take j = l
  have : ∀ (ys : List Int), (l.foldl (fun c p => c.set p.toNat (-2)) ys).length = ys.length := by
    induction l with
    | nil => intro ys; rfl
    | cons x l ih => intro ys; rw [List.foldl_cons, ih]; simp
  rw [this]; simp
def layL (xs : List Int) (k : Nat) (x : Ti) : List Int := layTo xs k x.num x.ps x.ps.length

set_option maxHeartbeats 4000000 in
theorem layTile_any (g n L B k : Nat) (xs : List Int) (r : Rt) (x : Ti) (w : World) (hn : xs.length = n) (hk : k < n) (hn24 : n ≤ 24) (hib : IB w g 3 xs) (hr : RtOk w L B r x) (hB : B ≤ w.heap.size) (hd : g < L ∨ B ≤ g) (hps : ∀ p ∈ x.ps, 0 ≤ p ∧ p < (k : Int)) (hpl : x.ps.length ≤ 2) :
    Calls Try.prog 122 #[.slice (some ⟨g, 0, none⟩) n n, .int .i64 (k : Int), .agg #[.int .i64 r.num, r.p, r.q, .int .i64 r.c]] w fun e w' => e = .returned (.tuple #[]) ∧ IB w' g 3 (layL xs k x) ∧ Chg g (g + 1) w w' := by
  obtain ⟨PA, pc, QA, qc, rfl, hp, hq⟩ := hr.form
  obtain ⟨num, ps, ins, cc⟩ := x
  dsimp only at hp hq hps hpl ⊢
  have hgl := hib.lt
  have hbx := (Below.refl w.heap.size w).alloc (Nat.le_refl _) (.cells #[.int .i64 num, .slice PA ps.length pc, .slice QA ins.length qc, .int .i64 cc] 77)
  have hI0 := hib.below hbx hgl
  have hI1 := Lib.hid (IB.alloc_ (hib.set k num) (.cells #[.int .i64 num, .slice PA ps.length pc, .slice QA ins.length qc, .int .i64 cc] 77))
  have hC1 := Lib.hid (((Chg.refl g (g + 1) w).setCell (p := ⟨g, k, none⟩) ⟨Nat.le_refl _, Nat.lt_succ_self _⟩ (.int .i64 num)).alloc (.cells #[.int .i64 num, .slice PA ps.length pc, .slice QA ins.length qc, .int .i64 cc] 77))
  have hP := Lib.hid hp.rs
  have hPs := Lib.hid hps
  have ck := hI0.cell k (by omega)
  have fk := hI0.frozen k
  generalize xs[k]'(by omega) = old at *
  have hk0 : (0 : Int) ≤ (k : Int) := by omega
  have hkn : (k : Int) < (n : Int) := by omega
  have h00 := Lib.hid (layTo_zero xs k num ps)
  have hZ : Hid (layL xs k ⟨num, ps, ins, cc⟩ = layTo xs k num ps ps.length) := rfl
  clear hib hr hp hq hps hI0 hbx
  go_enter Try.func122, Try.ntmps122
  have hPc := Lib.hid fun (W : World) (hW : Chg g (g + 1) w W) => IS.chg hP.out hW hB (by omega)
  go_wp2_with (fail)
  go_loopw [16] (fun q wr => ∃ j : Nat, j ≤ ps.length ∧ q = .int .i64 j ∧ IB wr g 3 (layTo xs k num ps j) ∧ Chg g (g + 1) w wr) (fun q _ => ps.length - (intOf q).toNat)
  case atStart => exact ⟨0, Nat.zero_le _, rfl, by rw [h00.out]; exact hI1.out, hC1.out⟩
  case round =>
    obtain ⟨j, hj, rfl, hib, hch⟩ := hrel
    have hIJ := Lib.hid hib
    have hCJ := Lib.hid hch
    clear hib
    by_cases hlt : j < ps.length
    · obtain ⟨pb, po, rfl, ⟨_, hpb⟩, hcc⟩ := (hPc.out _ hch) (by omega)
      have y1 := hcc j hlt
      have hpt := hPs.out ps[j] (List.getElem_mem _)
      have hS := Lib.hid (layTo_succ xs k num hlt)
      have hl := layTo_len xs k num ps j
      clear hcc hch
      generalize ps[j] = pp at *
      obtain ⟨pn, rfl⟩ := Int.eq_ofNat_of_zero_le hpt.1
      have hpm : (pn : Int) < (n : Int) := by omega
      have hpn0 : (0 : Int) ≤ (pn : Int) := by omega
      rw [Int.toNat_natCast] at hS
      generalize hnx : layTo xs k num ps (j + 1) = nx at *
      have hnx2 := Lib.hid hnx
      clear hnx
      generalize layTo xs k num ps j = cj at *
      have y2 := hIJ.out.cell pn (by omega)
      have y3 := hIJ.out.frozen pn
      generalize cj[pn]'(by omega) = old2 at *
      have hIn := Lib.hid (hIJ.out.set pn (-2))
      have hCn := Lib.hid (hCJ.out.setCell (p := ⟨g, pn, none⟩) ⟨Nat.le_refl _, Nat.lt_succ_self _⟩ (.int .i64 (-2)))
      go_wp2
      go_roundw
      case rel => exact ⟨j + 1, by omega, by go_num, by rw [hnx2.out, hS.out]; exact hIn.out, hCn.out⟩
      case measure => simp [intOf]; omega
    · obtain rfl : j = ps.length := by omega
      clear hch
      go_wp2
      go_end0
      exact ⟨rfl, by rw [hZ.out]; exact hIJ.out, hCJ.out⟩
end Go.Proofs.Ytgcbfiamhpfkhaa

/- slices.Backward over nodes: what it hands to a loop's body. -/
namespace Go.Proofs.Ytgcbfiamhpfkhaa
open Go.RowKit Go.Shelf
set_option linter.unusedVariables false
attribute [local go_sem] Oper.semAt_some

/-- A value in a box. -/
def BX (w : World) (b : Nat) (t : TypeId) (v : Value) : Prop := w.heap[b]? = some (.cells #[v] t (0, 0))
theorem BX.lt {w : World} {b : Nat} {t : TypeId} {v : Value} (h : BX w b t v) : b < w.heap.size := by
  rcases Nat.lt_or_ge b w.heap.size with hlt | hge
  · exact hlt
  · unfold BX at h; rw [Array.getElem?_eq_none hge] at h; cases h
theorem BX.new (w : World) (t : TypeId) (v : Value) : BX (w.alloc (.cells #[v] t)) w.heap.size t v := heap_alloc_new w _
theorem BX.cell {w : World} {b : Nat} {t : TypeId} {v : Value} (h : BX w b t v) : w.cell? ⟨b, 0, none⟩ = some v := cell_of_row w b 0 #[v] t (0, 0) h
theorem BX.fz {w : World} {b : Nat} {t : TypeId} {v : Value} (h : BX w b t v) : w.frozen? ⟨b, 0, none⟩ = false := by
  unfold BX at h; simp [World.frozen?, h]
theorem BX.below {w w' : World} {b B : Nat} {t : TypeId} {v : Value} (h : BX w b t v) (hb : Below B w w') (hB : b < B) : BX w' b t v := (hb.block b hB).trans h
theorem BX.next {w w' : World} {b : Nat} {t : TypeId} {v : Value} (h : BX w b t v) (hb : Below w.heap.size w w') : BX w' b t v := h.below hb h.lt
theorem BX.al {w : World} {b : Nat} {t : TypeId} {v : Value} (h : BX w b t v) (o : Obj) : BX (w.alloc o) b t v := h.next ((Below.refl _ _).alloc (Nat.le_refl _) o)
theorem BX.set {w : World} {b : Nat} {t : TypeId} {v : Value} (h : BX w b t v) (u : Value) : BX (w.setCell ⟨b, 0, none⟩ u) b t u := by
  unfold BX at h ⊢; simp [World.setCell, Array.getElem?_modify, h]
theorem BX.other {w : World} {b q : Nat} {t : TypeId} {v : Value} (h : BX w b t v) (j : Nat) (u : Value) (hne : q ≠ b) : BX (w.setCell ⟨q, j, none⟩ u) b t v :=
  (Below.heap_setCell w ⟨q, j, none⟩ u b (by simpa using Ne.symm hne)).trans h
theorem BX.kept {w w' : World} {b : Nat} {t : TypeId} {v : Value} {row : Option Nat} (h : BX w b t v) (hg : w.grownBy w' row) (hne : row ≠ some b) : BX w' b t v := (hg.block b h.lt (fun e => hne e.symm)).trans h
/-- A turn of what is no cells leaves a block of cells. -/
theorem row_not {w : World} {row : Option Nat} {b : Nat} {cs : Array Value} {t : TypeId} {x : Nat × Nat} (h : w.heap[b]? = some (.cells cs t x)) (hr : ∀ r, row = some r → ∃ o : Obj, w.heap[r]? = some o ∧ o.isCells = false) : row ≠ some b := by
  intro e
  obtain ⟨o, ho, hc⟩ := hr b e
  rw [h] at ho; injection ho with ho; subst ho; cases hc
def uptoB {α : Type} (f : Nat → α) (k : Nat) : List α := (List.range k).map f
theorem uptoB_succ {α : Type} (f : Nat → α) (k : Nat) : uptoB f (k + 1) = uptoB f k ++ [f k] := by simp [uptoB, List.range_succ]
theorem uptoB_length {α : Type} (f : Nat → α) (k : Nat) : (uptoB f k).length = k := by simp [uptoB]
theorem uptoB_prefix {α : Type} (f : Nat → α) {k n : Nat} (h : k ≤ n) : uptoB f k <+: uptoB f n := by
  obtain ⟨d, rfl⟩ := Nat.exists_eq_add_of_le h
  refine ⟨(List.range d).map (fun i => f (k + i)), ?_⟩
  simp [uptoB, List.range_add]
/-- What a node is as a value. -/
def ndV (x : Nd) : Value := .agg #[.string x.op, .int .i64 x.a, .int .i64 x.b, .int .i64 x.v]
/-- What slices.Backward hands to a round: a place and a node. -/
abbrev Bw (es : List Nd) := { x : Nat × Nd // x.1 < es.length }
/-- What comes from the last node back. -/
def bwF (es : List Nd) (h : 1 ≤ es.length) (k : Nat) : Bw es := ⟨(es.length - 1 - k, es.getD (es.length - 1 - k) zeroNd), by show es.length - 1 - k < es.length; omega⟩

/-- What a round keeps: what lay below n₀, and the box with the slice. -/
def KpB (n₀ Bs : Nat) (t : TypeId) (W W' : World) : Prop := Below n₀ W W' ∧ ∀ v, BX W Bs t v → BX W' Bs t v
theorem KpB.t {n₀ Bs : Nat} {t : TypeId} {A B C : World} (h1 : KpB n₀ Bs t A B) (h2 : KpB n₀ Bs t B C) : KpB n₀ Bs t A C := ⟨h1.1.trans h2.1, fun v h => h2.2 v (h1.2 v h)⟩
theorem KpB.b {n₀ Bs : Nat} {t : TypeId} {w : World} (hn : n₀ ≤ w.heap.size) (W : World) (l : Nat) (o o' : Obj) (h1 : w.heap.size ≤ l) (h2 : W.heap[l]? = some o) (h3 : o.isCells = false) (h4 : o.isWalk = false) : KpB n₀ Bs t W (W.putObj l o') := by
  refine ⟨belowK_b hn W l o o' h1 h2 h3 h4, fun v hb => ?_⟩
  have hne : Bs ≠ l := by
    intro e
    subst e
    unfold BX at hb
    rw [hb] at h2; injection h2 with h2; subst h2; cases h3
  exact (World.putObj_heap_other hne).trans hb

set_option maxRecDepth 100000 in
set_option maxHeartbeats 4000000 in
theorem bw1_in (F : Fence) (n : Nat) (hf : F.fn 163) (hro : F.round = none) (hn : 1 ≤ n) (l Bs n₀ b off cap : Nat) (es : List Nd) (hl : es.length ≤ 1048576) (hb : b < n₀) (hl1 : 1 ≤ es.length) (J Jx : List (Bw es) → World → Prop)
    (hY : ∀ pre x W, J pre W → pre.length < es.length → YieldAt F (n - 1) Try.prog l #[.int .i64 (x.1.1 : Int), ndV x.1.2] W fun e W' =>
      (e = .returned (.bool true) ∧ J (pre ++ [x]) W' ∧ KpB n₀ Bs 27 W W') ∨ (e = .returned (.bool false) ∧ Jx (pre ++ [x]) W'))
    (W : World) (hBs : BX W Bs 27 (.slice (some ⟨b, off, none⟩) es.length cap))
    (hc : ∀ k (h : k < es.length), W.cell? ⟨b, off + k * 4, none⟩ = some (.string es[k].op) ∧ W.cell? ⟨b, off + k * 4 + 1, none⟩ = some (.int .i64 es[k].a) ∧ W.cell? ⟨b, off + k * 4 + 2, none⟩ = some (.int .i64 es[k].b) ∧ W.cell? ⟨b, off + k * 4 + 3, none⟩ = some (.int .i64 es[k].v)) (h0 : J [] W) :
    CallsIn F n Try.prog 163 #[.func (.yield l) #[] #[], .pointer (some ⟨Bs, 0, none⟩)] W fun e W' => (∃ v, e = .returned v) ∧
      ((∃ ys, ys = uptoB (bwF es hl1) es.length ∧ J ys W') ∨ (∃ pre, (∃ k, k ≤ es.length ∧ pre = uptoB (bwF es hl1) k) ∧ Jx pre W')) := by
  refine callsIn_of_wp Try.func163 rfl hf ?_ hro
  simp only [Try.ntmps163, List.size_toArray, List.length_cons, List.length_nil, Nat.reduceAdd, Nat.reduceSub, Array.replicate_succ, Array.replicate_zero, List.push_toArray, List.append_toArray, List.nil_append, List.cons_append]
  have hl2 : (es.length : Int) ≤ 1048576 := by omega
  have hw1 : IntKind.i64.wrap ((es.length : Int) - 1) = (es.length : Int) - 1 := by rw [IntKind.wrap_i64]; omega
  have cS0 := hBs.cell
  gi_wp2
  gi_loopw [3] (fun i wr => ∃ r : Nat, r ≤ es.length ∧ i = .int .i64 ((r : Int) - 1) ∧ J (uptoB (bwF es hl1) (es.length - r)) wr ∧ KpB n₀ Bs 27 W wr)
    (fun i _ => (intOf i + 1).toNat)
  case atStart => exact ⟨es.length, Nat.le_refl _, rfl, by rw [Nat.sub_self]; exact h0, Below.refl _ _, fun _ h => h⟩
  case round =>
    obtain ⟨r, hr, rfl, hJs, hnx⟩ := hrel
    cases r with
    | zero =>
      have e0 : ((0 : Nat) : Int) - 1 = -1 := by decide
      rw [e0]
      gi_wp2
      go_end0
      exact ⟨⟨_, rfl⟩, .inl ⟨_, rfl, by simpa using hJs⟩⟩
    | succ r =>
      have e0 : ((r + 1 : Nat) : Int) - 1 = (r : Int) := by omega
      rw [e0]
      have hri : (r : Int) < (es.length : Int) := by omega
      have hr0 : (0 : Int) ≤ (r : Int) := by omega
      have hrl : r < es.length := hr
      have cS := (hnx.2 _ hBs).cell
      obtain ⟨c1, c2, c3, c4⟩ := hc r hrl
      have d1 := (hnx.1.cell (p := ⟨b, off + r * 4, none⟩) hb).trans c1
      have d2 := (hnx.1.cell (p := ⟨b, off + r * 4 + 1, none⟩) hb).trans c2
      have d3 := (hnx.1.cell (p := ⟨b, off + r * 4 + 2, none⟩) hb).trans c3
      have d4 := (hnx.1.cell (p := ⟨b, off + r * 4 + 3, none⟩) hb).trans c4
      clear c1 c2 c3 c4
      have hx : bwF es hl1 (es.length - (r + 1)) = ⟨(r, es[r]), hrl⟩ := by
        apply Subtype.ext
        unfold bwF
        have e : es.length - 1 - (es.length - (r + 1)) = r := by omega
        simp only
        rw [e, List.getD_eq_getElem?_getD, List.getElem?_eq_getElem hrl]; rfl
      have hsucc : uptoB (bwF es hl1) (es.length - r) = uptoB (bwF es hl1) (es.length - (r + 1)) ++ [⟨(r, es[r]), hrl⟩] := by
        have e : es.length - r = es.length - (r + 1) + 1 := by omega
        rw [e, uptoB_succ, hx]
      obtain ⟨fn, tmps, assign, body, hy, hR⟩ := hY _ ⟨(r, es[r]), hrl⟩ wr hJs (by rw [uptoB_length]; omega)
      dsimp only [ndV] at hy
      have hw2 : IntKind.i64.wrap ((r : Int) - 1) = (r : Int) - 1 := by rw [IntKind.wrap_i64]; omega
      gi_wp2
      refine hR.mono ?_
      rintro e W3 (⟨rfl, hJ3, hk3⟩ | ⟨rfl, hJx3⟩)
      · gi_wp2
        go_roundw
        case rel => exact ⟨r, by omega, rfl, by rw [hsucc]; exact hJ3, hnx.t hk3⟩
        case measure => first | (simp [intOf]; done) | (simp [intOf]; omega)
      · gi_wp2
        refine bodyPost_ret (results_none rfl _ _ _) rfl ?_
        exact ⟨⟨_, rfl⟩, .inr ⟨_, ⟨es.length - r, by omega, hsucc.symm⟩, hJx3⟩⟩

/-- slices.Backward(e): the slice value is boxed; the function value captures the box. -/
theorem bw_in (F : Fence) (n : Nat) (hf : F.fn 121) (hro : F.round = none) (a : Option Addr) (len cap : Nat) (w : World) :
    CallsIn F n Try.prog 121 #[.slice a len cap] w fun e w' => e = .returned (.func (.func 163) #[] #[.pointer (some ⟨w.heap.size, 0, none⟩)]) ∧ w' = w.alloc (.cells #[.slice a len cap] 27) := by
  refine callsIn_of_wp Try.func121 rfl hf ?_ hro
  simp only [Try.ntmps121, List.size_toArray, List.length_cons, List.length_nil, Nat.reduceAdd, Nat.reduceSub, Array.replicate_succ, Array.replicate_zero, List.push_toArray, List.append_toArray, List.nil_append, List.cons_append]
  gi_wp2
  go_ret
  exact ⟨rfl, rfl⟩

/-- What slices.Backward hands back stops when all nodes have come, or when some of them have come: for every body that keeps what lay below n₀. -/
theorem bw_stops (F : Fence) (n : Nat) (hf : F.fn 163) (hro : F.round = none) (hn : 1 ≤ n) (Bs n₀ L B : Nat) (A : Option Addr) (cap : Nat) (es : List Nd) (hl : es.length ≤ 1048576) (hl1 : 1 ≤ es.length) (w : World) (hn₀ : n₀ ≤ w.heap.size)
    (hc : BX w Bs 27 (.slice A es.length cap)) (hes : NS w L B A es) (hB : B ≤ n₀) :
    SeqStopsK F n Try.prog 163 #[.pointer (some ⟨Bs, 0, none⟩)] (fun x : Bw es => #[.int .i64 (x.1.1 : Int), ndV x.1.2]) (KpB n₀ Bs 27) (fun ys => ys = uptoB (bwF es hl1) es.length) (fun pre => ∃ k, k ≤ es.length ∧ pre = uptoB (bwF es hl1) k) es.length w := fun l J Jx W hW _ _ hY h0 => by
  have hc' := hc.next hW
  obtain ⟨b, off, rfl, ⟨_, hbB⟩, hcs⟩ := (hes.below hW (by omega)) (by omega)
  exact bw1_in F n hf hro hn l Bs n₀ b off cap es hl (by omega) hl1 J Jx hY W hc' hcs h0
end Go.Proofs.Ytgcbfiamhpfkhaa

/- What the functions of chapter 3 over tables answer. -/
namespace Go.Proofs.Ytgcbfiamhpfkhaa
open Go.RowKit
set_option linter.unusedVariables false

def neI (xs ys : List Int) (i : Nat) : Bool := xs.getD i 0 != ys.getD i 0
def xorI (xs ys : List Int) (i : Nat) : Int := bits .xor .i64 (xs.getD i 0) (ys.getD i 0)
theorem tab_len (es : List Nd) : (tab es).length = 4096 := tabTo_len _ _
theorem tab_W {es : List Nd} (hg : good es = true) : W64 (tab es) := by
  obtain ⟨hl1, hl24, hok⟩ := good_len hg
  intro i
  by_cases hi : i < 4096
  · rw [tab, tabTo_get _ hi]
    exact valsAt_W hok ⟨by omega, by omega⟩ ⟨by omega, by omega⟩ (Nat.le_refl _) _
  · rw [List.getD_eq_getElem?_getD, List.getElem?_eq_none (by rw [tab_len]; omega)]; exact ⟨Int.le_refl _, by show (0 : Int) ≤ 63; omega⟩
theorem xorI_bd {xs ys : List Int} (hx : W64 xs) (hy : W64 ys) (i : Nat) : 0 ≤ xorI xs ys i ∧ xorI xs ys i ≤ 63 := bxor_bd _ _ (hx i).1 (hx i).2 (hy i).1 (hy i).2
theorem xorI_ne {xs ys : List Int} (hx : W64 xs) (hy : W64 ys) (i : Nat) : (xorI xs ys i != 0) = neI xs ys i := by
  have h := bxor_zero (hx i).1 (hx i).2 (hy i).1 (hy i).2
  unfold xorI neI
  by_cases e : xs.getD i 0 = ys.getD i 0
  · rw [h.2 e, e]; simp
  · have h2 : ¬ bits .xor .i64 (xs.getD i 0) (ys.getD i 0) = 0 := fun h' => e (h.1 h')
    rw [bne_iff_ne.2 h2, bne_iff_ne.2 e]
theorem idx64 {i : Nat} : 64 * (i / 64) + i % 64 = i := by omega

def ok2 (es fs : List Nd) : Bool := good es && good fs
/-- The table of an exclusive or. -/
def difT (xs ys : List Int) : List Int := tabTo (fun x0 x1 => bits .xor .i64 (xs.getD (64 * x0 + x1).toNat 0) (ys.getD (64 * x0 + x1).toNat 0)) 4096
theorem difT_len (xs ys : List Int) : (difT xs ys).length = 4096 := tabTo_len _ _
theorem difT_get (xs ys : List Int) {i : Nat} (h : i < 4096) : (difT xs ys).getD i 0 = xorI xs ys i := by
  have e : (64 * ((i / 64 : Nat) : Int) + ((i % 64 : Nat) : Int)).toNat = i := by omega
  rw [difT, tabTo_get _ h, e]; rfl
def difR (es fs : List Nd) : List Int := if ok2 es fs = true then difT (tab es) (tab fs) else []

def eqR (es fs : List Nd) : Bool := ok2 es fs && decide (firstI (neI (tab es) (tab fs)) 4096 < 0)
def fdR (es fs : List Nd) : Int := if ok2 es fs = true then firstI (neI (tab es) (tab fs)) 4096 else -1
def fd0 (es fs : List Nd) : Int := if fdR es fs < 0 then 0 else fdR es fs / 64
def fd1 (es fs : List Nd) : Int := if fdR es fs < 0 then 0 else fdR es fs % 64
def fdB (es fs : List Nd) : Bool := decide (0 ≤ fdR es fs)
def cdR (es fs : List Nd) : Int := if ok2 es fs = true then countI (neI (tab es) (tab fs)) 4096 else 0
def dbR (es fs : List Nd) : Int := if ok2 es fs = true then orI (xorI (tab es) (tab fs)) 4096 else 0
def eaB (es fs : List Nd) (m : Int) : Bool := ok2 es fs && isW m
def eaR (es fs : List Nd) (m : Int) : Bool := eaB es fs m && (bits .and .i64 (orI (xorI (tab es) (tab fs)) 4096) m == 0)

theorem difR_first (es fs : List Nd) : firstI (fun i => (difR es fs).getD i 0 != 0) (difR es fs).length = fdR es fs := by
  unfold difR fdR
  by_cases h : ok2 es fs = true
  · rw [if_pos h, if_pos h, difT_len]
    simp only [ok2, Bool.and_eq_true] at h
    exact firstI_ext fun i hi => by rw [difT_get _ _ hi, xorI_ne (tab_W h.1) (tab_W h.2)]
  · rw [if_neg h, if_neg h]; rfl
theorem difR_count (es fs : List Nd) : countI (fun i => (difR es fs).getD i 0 != 0) (difR es fs).length = cdR es fs := by
  unfold difR cdR
  by_cases h : ok2 es fs = true
  · rw [if_pos h, if_pos h, difT_len]
    simp only [ok2, Bool.and_eq_true] at h
    exact countI_ext fun i hi => by rw [difT_get _ _ hi, xorI_ne (tab_W h.1) (tab_W h.2)]
  · rw [if_neg h, if_neg h]; rfl
theorem difR_or (es fs : List Nd) : orI (fun i => (difR es fs).getD i 0) (difR es fs).length = dbR es fs := by
  unfold difR dbR
  by_cases h : ok2 es fs = true
  · rw [if_pos h, if_pos h, difT_len]
    exact orI_ext fun i hi => difT_get _ _ hi
  · rw [if_neg h, if_neg h]; rfl
theorem dbR_bd (es fs : List Nd) : 0 ≤ dbR es fs ∧ dbR es fs ≤ 63 := by
  unfold dbR
  by_cases h : ok2 es fs = true
  · rw [if_pos h]
    simp only [ok2, Bool.and_eq_true] at h
    exact orI_bd fun i _ => xorI_bd (tab_W h.1) (tab_W h.2) i
  · rw [if_neg h]; omega
theorem or_first {xs ys : List Int} (hx : W64 xs) (hy : W64 ys) (n : Nat) : (true && (bits .and .i64 (orI (xorI xs ys) n) 63 == 0)) = (true && decide (firstI (neI xs ys) n < 0)) := by
  have hb := orI_bd (n := n) fun i _ => xorI_bd hx hy i
  have hz := orI_zero (n := n) fun i _ => xorI_bd hx hy i
  rw [and63, Int.emod_eq_of_lt hb.1 (by omega), Bool.eq_iff_iff]
  simp only [Bool.true_and, beq_iff_eq, decide_eq_true_eq]
  rw [hz, firstI_neg]
  constructor
  · intro a i hi
    have := xorI_ne hx hy i
    rw [← this, a i hi]; rfl
  · intro a i hi
    have := xorI_ne hx hy i
    rw [a i hi] at this; simpa using this
theorem eaR_63 (es fs : List Nd) : eaR es fs 63 = eqR es fs ∧ eaB es fs 63 = ok2 es fs := by
  have hw : isW 63 = true := by decide
  have hB : eaB es fs 63 = ok2 es fs := by unfold eaB; rw [hw, Bool.and_true]
  refine ⟨?_, hB⟩
  unfold eaR eqR
  rw [hB]
  cases h : ok2 es fs
  · rw [Bool.false_and, Bool.false_and]
  · simp only [ok2, Bool.and_eq_true] at h
    have q := or_first (tab_W h.1) (tab_W h.2) 4096
    exact q

/-- least and greatest value -/
def tmin (es : List Nd) : Int := if good es = true then minI (fun i => (tab es).getD i 0) 63 4096 else 0
def tmax (es : List Nd) : Int := if good es = true then maxI (fun i => (tab es).getD i 0) 0 4096 else 0
/-- the same value everywhere -/
def coI (xs : List Int) (n : Nat) : Bool := decide (firstI (fun i => xs.getD i 0 != xs.getD 0 0) n < 0)
theorem coI_iff (xs : List Int) (n : Nat) : coI xs n = true ↔ ∀ i, i < n → xs.getD i 0 = xs.getD 0 0 := by
  unfold coI; rw [decide_eq_true_eq, firstI_neg]
  exact ⟨fun h i hi => by simpa using h i hi, fun h i hi => by simpa using h i hi⟩
def coB (es : List Nd) : Bool := good es && coI (tab es) 4096
def coR (es : List Nd) : Int := if coB es = true then (tab es).getD 0 0 else 0
theorem tmin_start {es : List Nd} (hg : good es = true) : tmin es = minI (fun i => (tab es).getD i 0) ((tab es).getD 0 0) 4096 := by
  unfold tmin; rw [if_pos hg]; exact minI_start (by omega) fun i _ => (tab_W hg i).2
theorem tmax_start {es : List Nd} (hg : good es = true) : tmax es = maxI (fun i => (tab es).getD i 0) ((tab es).getD 0 0) 4096 := by
  unfold tmax; rw [if_pos hg]; exact maxI_start (by omega) fun i _ => (tab_W hg i).1
theorem co_of {xs : List Int} {mn mx : Int} {n : Nat} (h1 : mn ≤ xs.getD 0 0 ∧ ∀ i, i < n → mn ≤ xs.getD i 0) (h2 : xs.getD 0 0 ≤ mx ∧ ∀ i, i < n → xs.getD i 0 ≤ mx)
    (h3 : mn = xs.getD 0 0 ∨ ∃ i, i < n ∧ mn = xs.getD i 0) (h4 : mx = xs.getD 0 0 ∨ ∃ i, i < n ∧ mx = xs.getD i 0) : coI xs n = decide (mn = mx) ∧ (coI xs n = true → xs.getD 0 0 = mn) := by
  have k1 : coI xs n = true → mn = xs.getD 0 0 := fun h => by
    have a := (coI_iff xs n).1 h
    rcases h3 with h | ⟨i, hi, h⟩
    · exact h
    · rw [h]; exact a i hi
  have k2 : coI xs n = true → mx = xs.getD 0 0 := fun h => by
    have a := (coI_iff xs n).1 h
    rcases h4 with h | ⟨i, hi, h⟩
    · exact h
    · rw [h]; exact a i hi
  refine ⟨?_, fun h => (k1 h).symm⟩
  rw [Bool.eq_iff_iff, decide_eq_true_eq]
  constructor
  · intro h; rw [k1 h, k2 h]
  · intro e
    rw [coI_iff]; intro i hi
    have := h1.2 i hi; have := h2.2 i hi; have := h1.1; have := h2.1
    omega
theorem co_iff {es : List Nd} (hg : good es = true) : coB es = decide (tmin es = tmax es) ∧ (coB es = true → coR es = tmin es) := by
  have h1 := minI_le (fun i => (tab es).getD i 0) ((tab es).getD 0 0) 4096
  have h2 := maxI_ge (fun i => (tab es).getD i 0) ((tab es).getD 0 0) 4096
  have h3 := minI_is (fun i => (tab es).getD i 0) ((tab es).getD 0 0) 4096
  have h4 := maxI_is (fun i => (tab es).getD i 0) ((tab es).getD 0 0) 4096
  rw [← tmin_start hg] at h1 h3
  rw [← tmax_start hg] at h2 h4
  have k := co_of h1 h2 h3 h4
  have e : coB es = coI (tab es) 4096 := by unfold coB; rw [hg, Bool.true_and]
  refine ⟨by rw [e]; exact k.1, fun h => ?_⟩
  unfold coR; rw [if_pos h]
  exact k.2 (by rw [← e]; exact h)

/-- symmetric -/
def syI (xs : List Int) (i : Nat) : Bool := xs.getD (64 * (i % 64) + i / 64) 0 != xs.getD i 0
def syR (es : List Nd) : Bool := good es && decide (firstI (syI (tab es)) 4096 < 0)
def exT (xs : List Int) : List Int := tabTo (fun x0 x1 => xs.getD (64 * x1 + x0).toNat 0) 4096
theorem exT_len (xs : List Int) : (exT xs).length = 4096 := tabTo_len _ _
theorem exT_get (xs : List Int) {i : Nat} (h : i < 4096) : (exT xs).getD i 0 = xs.getD (64 * (i % 64) + i / 64) 0 := by
  have e : (64 * ((i % 64 : Nat) : Int) + ((i / 64 : Nat) : Int)).toNat = 64 * (i % 64) + i / 64 := by omega
  rw [exT, tabTo_get _ h, e]
theorem exT_ne (xs : List Int) : firstI (neI xs (exT xs)) 4096 = firstI (syI xs) 4096 :=
  firstI_ext fun i hi => by unfold neI syI; rw [exT_get _ hi]; exact bne_comm

/-- the least word in place of the input k that changes the value -/
def atW (k : Int) (i w : Nat) : Nat := if k = 1 then 64 * (i / 64) + w else 64 * w + i % 64
def lwI (xs : List Int) (k : Int) (i : Nat) : Int := firstI (fun w => xs.getD (atW k i w) 0 != xs.getD i 0) 64
def isK (k : Int) : Bool := k == 0 || k == 1
def dpB (es : List Nd) (k : Int) : Bool := good es && isK k
/-- the first index where a word changes the value -/
def dpI (es : List Nd) (k : Int) : Int := if dpB es k = true then firstI (fun i => isW (lwI (tab es) k i)) 4096 else -1
def dpR (es : List Nd) (k : Int) : Bool := decide (0 ≤ dpI es k)
def dwR (es : List Nd) (k : Int) : List Int := if dpI es k < 0 then [] else [dpI es k / 64, dpI es k % 64, lwI (tab es) k (dpI es k).toNat]
theorem dwR_len (es : List Nd) (k : Int) : (dwR es k).length ≤ 1048576 := by unfold dwR; split <;> simp
def lwT (xs : List Int) (k : Int) : List Int := tabTo (fun x0 x1 => lwI xs k (64 * x0 + x1).toNat) 4096
theorem lwT_len (xs : List Int) (k : Int) : (lwT xs k).length = 4096 := tabTo_len _ _
theorem lwT_get (xs : List Int) (k : Int) {i : Nat} (h : i < 4096) : (lwT xs k).getD i 0 = lwI xs k i := by
  have e : (64 * ((i / 64 : Nat) : Int) + ((i % 64 : Nat) : Int)).toNat = i := by omega
  rw [lwT, tabTo_get _ h, e]
def cwR (es : List Nd) (k : Int) : List Int := if dpB es k = true then lwT (tab es) k else []
theorem cwR_first (es : List Nd) (k : Int) : firstI (fun i => isW ((cwR es k).getD i 0)) (cwR es k).length = dpI es k := by
  unfold cwR dpI
  by_cases h : dpB es k = true
  · rw [if_pos h, if_pos h, lwT_len]
    exact firstI_ext fun i hi => by rw [lwT_get _ _ hi]
  · rw [if_neg h, if_neg h]; rfl
theorem lwI_W {xs : List Int} {k : Int} {i : Nat} : isW (lwI xs k i) = decide (0 ≤ lwI xs k i) := by
  have := firstI_bd (fun w => xs.getD (atW k i w) 0 != xs.getD i 0) 64
  unfold isW lwI
  by_cases h : 0 ≤ firstI (fun w => xs.getD (atW k i w) 0 != xs.getD i 0) 64
  · rw [decide_eq_true h, decide_eq_true (by omega)]; rfl
  · rw [decide_eq_false h]; rfl
end Go.Proofs.Ytgcbfiamhpfkhaa
