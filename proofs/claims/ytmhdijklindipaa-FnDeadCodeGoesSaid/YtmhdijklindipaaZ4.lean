/- Texts of this proof, one behind the other: LawLS, BU, RR, BV, R, BW. -/
import Derived.Test.YtmhdijklindipaaZ6
import Derived.Test.YtmhdijklindipaaKMInstr
import Derived.Test.YtmhdijklindipaaKInstr
import Derived.Test.YtmhdijklindipaaLI
import Derived.WalkKit
import Derived.WalkSpells
import Derived.WalkLawsBesides
import Derived.Lib.Hide
import Derived.Test.YtmhdijklindipaaZ5
import Derived.RangeFuncNested
import Derived.RangeFuncBound
import Derived.RangeFuncCalls
import Derived.RangeFuncLeaves
import Derived.RangeFuncBox
import Derived.RangeFuncFrom
import Derived.Shelf.Abstract
import Derived.Shelf.RegionOpen
import Derived.OwnWalkIn
import Derived.TacticsInMore
import Derived.LoopNIn
import Derived.LoopIn
import Derived.OrdersIn
import Derived.Deep.RegionLaw
import Derived.Deep.RegionHeld3
import Derived.Test.YtmhdijklindipaaEA
import Derived.ControlIn
import Derived.Test.YtmhdijklindipaaJ
import Derived.Test.YtmhdijklindipaaM2
import Derived.Test.YtmhdijklindipaaE
import Derived.Deep.QuietTactic
import Derived.BigQuiet
import Derived.BigRegion
namespace Go.Proofs.Ytmhdijklindipaa
open Go.RowKit
set_option linter.unusedVariables false

def ResLiveSets (R0 : List (List Int)) (R1 : Bool) (w : World) (e : Ending) (w' : World) : Prop := ∃ (A0 : Option Addr) (c0 : Nat), e = .returned (.tuple #[.slice A0 R0.length c0, .bool R1]) ∧ OX w' w.heap.size w'.heap.size (.slice A0 R0.length c0) R0 ∧ Below w.heap.size w w'
end Go.Proofs.Ytmhdijklindipaa

/- LiveSets of the program: what lies in its boxes. -/
namespace Go.Proofs.Ytmhdijklindipaa
open Go.RowKit Go.Shelf
set_option linter.unusedVariables false
set_option maxRecDepth 100000
attribute [local go_sem] Oper.semAt_some

def lsF (p : List (List Int) × List Bool) (x : Nat × In) : List (List Int) × List Bool := (p.1.set x.1 (mkT (bkB p.2 x.2)), bkB p.2 x.2)
def lsP {cs : List In} (bs : List Bool) (pre : List (BwI cs)) : List (List Int) × List Bool := (pre.map fun x => x.1).foldl lsF ((List.replicate (cs.length + 1) []).set cs.length (mkT bs), bs)
theorem lsP_snoc {cs : List In} (bs : List Bool) (pre : List (BwI cs)) (x : BwI cs) : lsP bs (pre ++ [x]) = lsF (lsP bs pre) x.1 := by
  unfold lsP; rw [List.map_append, List.foldl_append]; rfl
theorem lsP_len {cs : List In} (bs : List Bool) (hl : bs.length = 6) (pre : List (BwI cs)) : (lsP bs pre).1.length = cs.length + 1 ∧ (lsP bs pre).2.length = 6 := by
  unfold lsP
  have : ∀ (l : List (Nat × In)) (p : List (List Int) × List Bool), p.2.length = 6 → (l.foldl lsF p).1.length = p.1.length ∧ (l.foldl lsF p).2.length = 6 := by
    intro l
    induction l with
    | nil => intro p h; exact ⟨rfl, h⟩
    | cons x l ih =>
      intro p h
      rw [List.foldl_cons]
      have := ih (lsF p x) (by unfold lsF; dsimp only; rw [bkB_len]; exact h)
      exact ⟨by rw [this.1]; unfold lsF; dsimp only; rw [List.length_set], this.2⟩
  have := this (pre.map fun x => x.1) ((List.replicate (cs.length + 1) []).set cs.length (mkT bs), bs) hl
  exact ⟨by rw [this.1]; simp, this.2⟩
theorem lsP_at {cs : List In} (bs : List Bool) : ∀ m, m ≤ cs.length → (lsP bs ((bL cs).take m)).2 = lvS bs (cs.drop (cs.length - m)) ∧ ∀ k, k ≤ cs.length → (lsP bs ((bL cs).take m)).1[k]? = some (if cs.length - m ≤ k then mkT (lvS bs (cs.drop k)) else [])
  | 0, _ => by
    refine ⟨?_, fun k hk => ?_⟩
    · rw [Nat.sub_zero, List.drop_length]; rfl
    · show ((List.replicate (cs.length + 1) []).set cs.length (mkT bs))[k]? = _
      rw [List.getElem?_set]
      by_cases e : cs.length = k
      · subst e
        rw [if_pos rfl, if_pos (by simp), if_pos (by omega), List.drop_length]; rfl
      · rw [if_neg e, if_neg (by omega), List.getElem?_replicate, if_pos (by omega)]
  | m + 1, h => by
    obtain ⟨ih1, ih2⟩ := lsP_at (cs := cs) bs m (by omega)
    have hr : cs.length - (m + 1) < cs.length := by omega
    have e : (bL cs).take (m + 1) = (bL cs).take m ++ [⟨(cs.length - (m + 1), cs[cs.length - (m + 1)]), hr, List.getElem?_eq_getElem hr⟩] := by
      have := bL_succ (es := cs) (r := cs.length - (m + 1)) hr
      rw [show cs.length - (cs.length - (m + 1) + 1) = m by omega] at this
      exact this
    have hs := lvS_drop bs hr
    rw [show cs.length - (m + 1) + 1 = cs.length - m by omega] at hs
    rw [e, lsP_snoc]
    unfold lsF
    dsimp only
    refine ⟨by rw [ih1, hs], fun k hk => ?_⟩
    rw [ih1, ← hs, List.getElem?_set]
    by_cases e2 : cs.length - (m + 1) = k
    · have hlen : k < (lsP bs ((bL cs).take m)).1.length := by
        rcases Nat.lt_or_ge k (lsP bs ((bL cs).take m)).1.length with h1 | h1
        · exact h1
        · have := ih2 k hk; rw [List.getElem?_eq_none h1] at this; cases this
      subst e2
      rw [if_pos rfl, if_pos hlen, if_pos (Nat.le_refl _)]
    · rw [if_neg e2, ih2 k hk]
      congr 1
      by_cases e3 : cs.length - m ≤ k
      · rw [if_pos e3, if_pos (by omega)]
      · rw [if_neg e3, if_neg (by omega)]
theorem lsP_all {cs : List In} (bs : List Bool) : (lsP bs ((bL cs).take cs.length)).1 = lvX bs cs := by
  obtain ⟨_, h⟩ := lsP_at (cs := cs) bs cs.length (Nat.le_refl _)
  apply List.ext_getElem?
  intro k
  by_cases hk : k ≤ cs.length
  · rw [h k hk, lvX_at bs cs k hk, if_pos (by omega)]
  · have h9 : (lvX bs cs)[k]? = none := List.getElem?_eq_none (by rw [lvX_len]; omega)
    rw [h9]
    apply List.getElem?_eq_none
    have : ∀ (l : List (Nat × In)) (p : List (List Int) × List Bool), (l.foldl lsF p).1.length = p.1.length := by
      intro l
      induction l with
      | nil => intro p; rfl
      | cons x l ih => intro p; rw [List.foldl_cons, ih]; unfold lsF; dsimp only; rw [List.length_set]
    unfold lsP
    rw [this]; simp; omega

/-- What lies in the boxes of LiveSets. -/
structure LS (w0 W : World) (p6 p7 g n : Nat) (bs : List Bool) (xss : List (List Int)) : Prop where
  h6 : w0.heap.size ≤ p6
  h6g : p6 < g
  hg7 : g < p7
  b6 : BT W p6 bs
  b7 : BX W p7 50 (.slice (some ⟨g, 0, none⟩) n n)
  rows : ∃ vs, CB 27 W g vs ∧ vs.length = n ∧ RowsX W g W.heap.size vs xss
  be : Below w0.heap.size w0 W
theorem cb_not {w : World} {row : Option Nat} {g : Nat} {t : TypeId} {cur : List Value} (h : CB t w g cur) (hr : ∀ r, row = some r → ∃ o : Obj, w.heap[r]? = some o ∧ o.isCells = false) : row ≠ some g := by
  intro e
  obtain ⟨o, ho, hc⟩ := hr g e
  rw [show w.heap[g]? = some (.cells cur.toArray t (0, 0)) from h] at ho; injection ho with ho; subst ho; cases hc
theorem ow_not {w : World} {row : Option Nat} {lo hi : Nat} {v : Value} {xs : List Int} (h : OW w lo hi v xs) (hr : ∀ r, row = some r → ∃ o : Obj, w.heap[r]? = some o ∧ o.isCells = false) : v.ownBlock = none ∨ v.ownBlock ≠ row := by
  rcases h.1.2 with ⟨rfl, _⟩ | ⟨g, cap, cur, rfl, _, hh, _⟩
  · exact .inl rfl
  · exact .inr (fun e => row_not hh hr e.symm)
theorem RowsX.keptO {w w' : World} {lo hi : Nat} {vs : List Value} {xss : List (List Int)} {row : Option Nat} (h : RowsX w lo hi vs xss) (hg : w.grownBy w' row) (hr : ∀ r, row = some r → ∃ o : Obj, w.heap[r]? = some o ∧ o.isCells = false) : RowsX w' lo hi vs xss :=
  ⟨h.len, fun i h1 h2 => ⟨(h.row i h1 h2).1, ⟨(h.row i h1 h2).2.1.kept hg (ow_not (h.row i h1 h2).2 hr), (h.row i h1 h2).2.2⟩⟩, h.apart⟩
theorem LS.kept {w0 W W' : World} {p6 p7 g n : Nat} {bs : List Bool} {xss : List (List Int)} {row : Option Nat} (h : LS w0 W p6 p7 g n bs xss) (hg : W.grownBy W' row) (hr : ∀ r, row = some r → w0.heap.size ≤ r ∧ ∃ o : Obj, W.heap[r]? = some o ∧ o.isCells = false) : LS w0 W' p6 p7 g n bs xss := by
  have hr' : ∀ r, row = some r → ∃ o : Obj, W.heap[r]? = some o ∧ o.isCells = false := fun r e => (hr r e).2
  obtain ⟨vs, hc, hv, hR⟩ := h.rows
  exact ⟨h.h6, h.h6g, h.hg7, (hg.block p6 h.b6.lt (fun e => bt_not h.b6 hr' e.symm)).trans h.b6, h.b7.kept hg (row_not h.b7 hr'), ⟨vs, (hg.block g hc.lt (fun e => cb_not hc hr' e.symm)).trans hc, hv, (hR.keptO hg hr').more hg.size⟩, h.be.grown hg h.be.size (fun k e => (hr k e).1)⟩
theorem LS.below {w0 W W' : World} {p6 p7 g n : Nat} {bs : List Bool} {xss : List (List Int)} (h : LS w0 W p6 p7 g n bs xss) (hb : Below W.heap.size W W') : LS w0 W' p6 p7 g n bs xss := by
  obtain ⟨vs, hc, hv, hR⟩ := h.rows
  exact ⟨h.h6, h.h6g, h.hg7, h.b6.next hb h.b6.lt, h.b7.next hb, ⟨vs, hc.below hb hc.lt, hv, RowsX.more ⟨hR.len, fun i h1 h2 => ⟨(hR.row i h1 h2).1, (hR.row i h1 h2).2.below hb (Nat.le_refl _)⟩, hR.apart⟩ hb.size⟩, h.be.trans (hb.mono h.be.size)⟩
theorem LS.lay {w0 W W' : World} {p6 p7 g n : Nat} {bs bs' : List Bool} {xss : List (List Int)} (h : LS w0 W p6 p7 g n bs xss) (hc : Chg p6 (p6 + 1) W W') (hb : BT W' p6 bs') : LS w0 W' p6 p7 g n bs' xss := by
  have h6 := h.h6; have h6g := h.h6g; have hg7 := h.hg7
  obtain ⟨vs, hcb, hv, hR⟩ := h.rows
  exact ⟨h6, h6g, hg7, hb, bx_chg h.b7 hc (.inr (by omega)), ⟨vs, (hc.block g hcb.lt (.inr (by omega))).trans hcb, hv, (hR.chg hc (.inr (by omega))).more hc.size⟩, below_chg h.be hc h.be.size (by omega)⟩
/-- A row of the call's own, newer than all, is laid at k. -/
theorem LS.put {w0 W W' : World} {p6 p7 g n k : Nat} {bs : List Bool} {xss : List (List Int)} {v : Value} {xs : List Int} (h : LS w0 W p6 p7 g n bs xss) (hb : Below W.heap.size W W') (hv : OW W' W.heap.size W'.heap.size v xs) : LS w0 (W'.setCell ⟨g, k, none⟩ v) p6 p7 g n bs (xss.set k xs) := by
  have h' := h.below hb
  have h6 := h.h6; have h6g := h.h6g; have hg7 := h.hg7
  obtain ⟨vs, hcb0, hvn, hR0⟩ := h.rows
  have hcb : CB 27 W' g vs := hcb0.below hb hcb0.lt
  have hR : RowsX W' g W.heap.size vs xss := ⟨hR0.len, fun i h1 h2 => ⟨(hR0.row i h1 h2).1, (hR0.row i h1 h2).2.below hb (Nat.le_refl _)⟩, hR0.apart⟩
  have hR2 := hR.set k hv hb.size (by have := hcb0.lt; omega)
  have hz : (W'.setCell ⟨g, k, none⟩ v).heap.size = W'.heap.size := World.size_setCell _ _ _
  refine ⟨h6, h6g, hg7, ?_, h'.b7.other k v (by omega), ⟨vs.set k v, hcb.set k v, by rw [List.length_set]; exact hvn, ?_⟩, h'.be.setCell (p := ⟨g, k, none⟩) (by show w0.heap.size ≤ g; omega) v⟩
  · exact (Below.heap_setCell W' ⟨g, k, none⟩ v p6 (by show p6 ≠ g; omega)).trans h'.b6
  · rw [hz]; exact hR2.stored hcb (by decide)
theorem keeps_cb {n Bs g k : Nat} {t t' : TypeId} {W : World} {cur : List Value} {v : Value} (hi : CB t' W g cur) (hn : n ≤ g) (hB : g ≠ Bs) : KeepsOthers W (W.setCell ⟨g, k, none⟩ v) ∧ KpB n Bs t W (W.setCell ⟨g, k, none⟩ v) :=
  ⟨KeepsOthers.setCell _ _ _, (Below.refl n W).setCell (p := ⟨g, k, none⟩) hn v, fun u h => h.other k v hB⟩
end Go.Proofs.Ytmhdijklindipaa

/- A region that draws its order, in a round of a range over a function: by the walk outside. -/
namespace Go.Proofs.Ytmhdijklindipaa
open Go.RowKit
set_option linter.unusedVariables false

/-- A region that goes on and nothing else. -/
def OnlyN (K : Act → World → Prop) : Exit → Act → World → Prop
  | .normal, a, w => K a w
  | _, _, _ => False
theorem oper_round {l n : Nat} {P : Program} {o : Oper} {a : Act} {w : World} {K K0 : Act → World → Prop} {Q : Exit → Act → World → Prop} (hd : ∀ c, o.op ≠ .defer c) (h : o.wp P a w K (OnlyN K0)) : o.wpIn (Fence.wide.inRound l) n P a w K Q := by
  refine ⟨fun _ _ => trivial, ?_⟩
  rw [show (Fence.wide.inRound l).round = some l from rfl, Oper.semAt_some l _ o hd]
  unfold Oper.wp at h
  generalize (execOp a.eval o).run P w = r at h ⊢
  cases r with
  | ok x w' =>
    cases x with
    | value v => exact h
    | skip => exact h
    | defer d => exact h
    | enter f args =>
      refine ⟨fun h => (by cases h), CallsIn.inRound l (callsIn_wide.2 (Calls.mono h ?_))⟩
      intro e w2 he
      cases e with
      | returned v => exact he
      | panicked c => exact (he : False).elim
      | outgrown =>
        obtain ⟨_, _, hx⟩ := (show LetsOut (OnlyN K0) from he)
        exact (show False from hx).elim
    | row r args =>
      refine ⟨fun h => (by cases h), fun c cs _ => ?_⟩
      obtain ⟨v, w2, hr, hs⟩ := h c cs
      exact ⟨v, w2, hr, stepsIn_wide.2 hs⟩
    | _ => exact (show False from h).elim
  | halt x w' =>
    cases x <;> exact (show False from h).elim

theorem wpOp_round {l n : Nat} {P : Program} {ops : Array Oper} {i : Nat} {a : Act} {w : World} {K K0 : Act → World → Prop} {Q : Exit → Act → World → Prop} (hd : ∀ (i : Nat) (o : Oper), ops[i]? = some o → ∀ c, o.op ≠ .defer c) (h : wpOp P ops (OnlyN K0) i K a w) : wpOpIn (Fence.wide.inRound l) n P ops Q i K a w := by
  unfold wpOp at h
  unfold wpOpIn
  cases ho : ops[i]? with
  | none => rw [ho] at h; exact h
  | some o =>
    rw [ho] at h
    simp only at h ⊢
    split
    · rename_i hw
      rw [if_pos hw] at h
      rcases h with h | ⟨_, h⟩
      · exact oper_round (hd i o ho) h
      · obtain ⟨_, _, hx⟩ := (show LetsOut (OnlyN K0) from h)
        exact (show False from hx).elim
    · rename_i hw
      rw [if_neg hw] at h
      exact ⟨fun _ _ => trivial, h⟩

theorem wpAny_round {l n : Nat} {P : Program} {ops : Array Oper} {md : Region.Mode} {K0 : Act → World → Prop} {Q : Exit → Act → World → Prop} (hd : ∀ (i : Nat) (o : Oper), ops[i]? = some o → ∀ c, o.op ≠ .defer c) (hQ : ∀ a w, K0 a w → Q .normal a w) :
    ∀ (fuel : Nat) (listed : Array Bool) (a : Act) (w : World), wpAny P md ops (OnlyN K0) fuel listed a w → wpAnyIn (Fence.wide.inRound l) n P md ops Q fuel listed a w := by
  intro fuel
  induction fuel with
  | zero => intro listed a w h; exact ⟨h.1, hQ _ _ h.2⟩
  | succ fuel ih =>
    intro listed a w h
    refine ⟨fun hr => hQ _ _ (h.1 hr), fun i hi => ?_⟩
    exact wpOpIn_mono (fun a w => ih _ a w) (wpOp_round hd (h.2 i hi))

/-- The region in a round: by the walk that takes the loads first. -/
theorem region_round {l n id : Nat} {P : Program} {ops : Array Oper} {S : World → Prop} {K0 : Act → World → Prop} {Q : Exit → Act → World → Prop} {a : Act} {w : World} (hm : P.follows .mixedOrders = true) (hd : ops.toList.all (fun o => match o.op with | .defer _ => false | _ => true) = true) (hQ : ∀ a w, K0 a w → Q .normal a w) (hS : S w.drew)
    (h : S w.drew → wpAnyH P .any ops (OnlyN K0) S ops.size (Array.replicate ops.size false) a w.drew) : (Code.region id ops true).wpIn (Fence.wide.inRound l) n P Q a w := by
  have hd' : ∀ (i : Nat) (o : Oper), ops[i]? = some o → ∀ c, o.op ≠ .defer c := by
    intro i o ho c hc
    have hm := (List.all_eq_true.1 hd) o (by rw [← Array.getElem?_toList] at ho; exact List.mem_of_getElem? ho)
    simp [hc] at hm
  refine wpIn_region_any hm (wpAny_round hd' hQ _ _ _ _ ?_)
  exact wpAny_of_held _ _ _ _ (h hS)
end Go.Proofs.Ytmhdijklindipaa

/- LiveSets of the program. -/
namespace Go.Proofs.Ytmhdijklindipaa
open Go.RowKit Go.Shelf
set_option linter.unusedVariables false
set_option maxRecDepth 100000
attribute [local go_sem] Oper.semAt_some

theorem region_out {n id : Nat} {P : Program} {ops : Array Oper} {S : World → Prop} {K0 : Act → World → Prop} {Q : Exit → Act → World → Prop} {a : Act} {w : World} (hm : P.follows .mixedOrders = true) (hQ : ∀ a w, K0 a w → Q .normal a w) (hS : S w.drew)
    (h : S w.drew → wpAnyH P .any ops (OnlyN K0) S ops.size (Array.replicate ops.size false) a w.drew) : (Code.region id ops true).wpIn Fence.wide n P Q a w :=
  wpIn_wide.2 (Code.wp_mono (Q := OnlyN K0) (fun e a w hh => by
    cases e with
    | normal => exact hQ a w hh
    | _ => exact (show False from hh).elim) (wp_region_any hm (wpAny_of_held _ _ _ _ (h hS))))
theorem run_make_iis (n : Nat) (hn : n ≤ 1048576) (W : World) : (Instr.makeSlice 50 (.int .i64 (n : Int)) (.int .i64 (n : Int))).run Try.prog W = .ok (.slice (some ⟨W.heap.size, 0, none⟩) n n) (W.alloc (.cells (List.replicate n (Value.slice none 0 0)).toArray 27)) := by
  obtain ⟨i0, hi, hz0, hz1, hz2⟩ := info_parts Try.infoII
  have h := run_make (P := Try.prog) W 50 27 i0 _ Try.underlying50 hi hz0 .i64 .i64 n n (by omega) (by omega) (by rw [hz2]; omega) (by omega)
  rw [h]
  simp only [Int.toNat_natCast, hz1, Nat.mul_one]
  refine congrArg (fun c => Result.ok (Value.slice (some ⟨W.heap.size, 0, none⟩) n n) (W.alloc (.cells c 27))) ?_
  apply Array.ext'
  exact toList_madeCells_one _ _
theorem rows_nil (w : World) (lo hi n : Nat) : RowsX w lo hi (List.replicate n (Value.slice none 0 0)) (List.replicate n []) := by
  refine ⟨by simp, fun i h1 h2 => ?_, fun i j h1 h2 hne b hb => ?_⟩
  · simp only [List.getElem_replicate]
    exact ⟨⟨none, 0, rfl⟩, OW.nil _ _ _⟩
  · simp only [List.getElem_replicate] at hb
    simp [Value.ownBlock] at hb
def lsR (cs : List In) (out : List Int) : List (List Int) := if ddOk cs out = true then lvX (setsTo out out.length) cs else []

set_option maxHeartbeats 4000000 in
theorem iLiveSets_go (L B L' B' : Nat) (A A' : Option Addr) (c c' : Nat) (cs : List In) (out : List Int) (w : World) (hk : okCode cs = true) (hr : riseB out = true) (hn : out.length ≤ 1048576) (hes : RS In.enc 5 w L B A cs) (hB : B ≤ w.heap.size) (hns : IS w L' B' A' out) (hB' : B' ≤ w.heap.size) :
    Calls Try.prog 63 #[.slice A cs.length c, .slice A' out.length c'] w (ResLiveSets (lsR cs out) (ddOk cs out) w) := by
  have hl40 := okCode_len hk
  have hl : cs.length ≤ 1048576 := by omega
  have H := Lib.hid (IsCode_any L B A c cs w hl hes hB)
  have H2 := Lib.hid fun (W : World) (hW : Below w.heap.size w W) => areRegisters_any L' B' A' c' out W hn (hns.below hW hB')
  have H3 := Lib.hid fun (W : World) (hW : Below w.heap.size w W) => registerSetOf_any L' B' A' c' out W hn (hns.below hW hB') (Nat.le_trans hB' hW.size) (rise_bits hr).1
  have hE := Lib.hid fun (W : World) (hW : Below w.heap.size w W) => hes.below hW hB
  have hBB := Lib.hid hB
  have hR := Lib.hid (show lsR cs out = lvX (setsTo out out.length) cs by unfold lsR ddOk; rw [hk, hr]; rfl)
  have hO := Lib.hid (show ddOk cs out = true by unfold ddOk; rw [hk, hr]; rfl)
  have hall := Lib.hid (okCode_all hk)
  have hl6 := setsTo_len out out.length
  rw [hk] at H
  rw [hr] at H2
  clear hk hr hes hB hns hB'
  generalize setsTo out out.length = bs at *
  have hL6 := Lib.hid hl6
  obtain ⟨b0, b1, b2, b3, b4, b5, hbs⟩ := six_bools hl6
  have hBS := Lib.hid hbs
  rw [hbs] at H3
  clear hbs hl6
  simp only [boolCells, List.map_cons, List.map_nil] at H3
  have hmk := run_make_iis (cs.length + 1) (by omega)
  rw [Int.natCast_add, show ((1 : Nat) : Int) = 1 from rfl] at hmk
  refine (callsIn_wide (n := 6)).1 ?_
  refine callsIn_of_wp_marks Try.func63 rfl trivial ?_ rfl
  simp only [Try.ntmps63, List.size_toArray, List.length_cons, List.length_nil, Nat.reduceAdd, Nat.reduceSub, Array.replicate_succ, Array.replicate_zero, List.push_toArray, List.append_toArray, List.nil_append, List.cons_append]
  gi_wp2
  refine ⟨trivial, callsIn_wide.2 (H.out.mono ?_)⟩
  rintro e W1 ⟨rfl, hb1⟩
  have B1 := Lib.hid hb1
  clear hb1
  gi_wp2
  refine ⟨trivial, callsIn_wide.2 ((H2.out W1 B1.out).mono ?_)⟩
  rintro e W1' ⟨rfl, rfl⟩
  gi_wp2
  refine ⟨trivial, callsIn_wide.2 ((H3.out W1 B1.out).mono ?_)⟩
  rintro e W2 ⟨rfl, hb2⟩
  have B2 := Lib.hid (B1.out.trans (hb2.mono B1.out.size))
  clear hb2 B1 H H2 H3
  gi_wp2
  obtain ⟨W4, hW4⟩ : ∃ W4, W4 = ((W2.alloc (.cells #[.bool b0, .bool b1, .bool b2, .bool b3, .bool b4, .bool b5] 143)).alloc (.cells (Array.replicate (cs.length + 1) (Value.slice none 0 0)) 27)).alloc (.cells #[.slice (some ⟨W2.heap.size + 1, 0, none⟩) (cs.length + 1) (cs.length + 1)] 50) := ⟨_, rfl⟩
  have z1 := World.size_alloc W2 (.cells #[.bool b0, .bool b1, .bool b2, .bool b3, .bool b4, .bool b5] 143)
  have z2 := World.size_alloc (W2.alloc (.cells #[.bool b0, .bool b1, .bool b2, .bool b3, .bool b4, .bool b5] 143)) (.cells (Array.replicate (cs.length + 1) (Value.slice none 0 0)) 27)
  have LS0 : LS w W4 W2.heap.size (W2.heap.size + 1 + 1) (W2.heap.size + 1) (cs.length + 1) bs (List.replicate (cs.length + 1) []) := by
    have hz2 := B2.out.size
    have a1 := (Below.refl W2.heap.size W2).alloc (Nat.le_refl _) (.cells #[.bool b0, .bool b1, .bool b2, .bool b3, .bool b4, .bool b5] 143)
    have a2 := a1.alloc a1.size (.cells (Array.replicate (cs.length + 1) (Value.slice none 0 0)) 27)
    have a3 := a2.alloc a2.size (.cells #[.slice (some ⟨W2.heap.size + 1, 0, none⟩) (cs.length + 1) (cs.length + 1)] 50)
    rw [hW4]
    refine ⟨hz2, by omega, by omega, ?_, ?_, ?_, B2.out.trans (a3.mono hz2)⟩
    · have h : BT (W2.alloc (.cells #[.bool b0, .bool b1, .bool b2, .bool b3, .bool b4, .bool b5] 143)) W2.heap.size [b0, b1, b2, b3, b4, b5] := heap_alloc_new W2 _
      rw [hBS.out]
      exact (h.next ((Below.refl _ _).alloc (Nat.le_refl _) _) h.lt).next ((Below.refl _ _).alloc (Nat.le_refl _) _) (by rw [z2, z1]; omega)
    · have h := BX.new ((W2.alloc (.cells #[.bool b0, .bool b1, .bool b2, .bool b3, .bool b4, .bool b5] 143)).alloc (.cells (Array.replicate (cs.length + 1) (Value.slice none 0 0)) 27)) 50 (.slice (some ⟨W2.heap.size + 1, 0, none⟩) (cs.length + 1) (cs.length + 1))
      rw [z2, z1] at h; exact h
    · have h : CB 27 ((W2.alloc (.cells #[.bool b0, .bool b1, .bool b2, .bool b3, .bool b4, .bool b5] 143)).alloc (.cells (Array.replicate (cs.length + 1) (Value.slice none 0 0)) 27)) (W2.alloc (.cells #[.bool b0, .bool b1, .bool b2, .bool b3, .bool b4, .bool b5] 143)).heap.size (List.replicate (cs.length + 1) (Value.slice none 0 0)) := by
        unfold CB; rw [List.toArray_replicate]; exact heap_alloc_new _ _
      rw [z1] at h
      exact ⟨_, h.below ((Below.refl _ _).alloc (Nat.le_refl _) _) h.lt, by simp, rows_nil _ _ _ _⟩
  rw [← hW4]
  obtain ⟨p6, hp6⟩ : ∃ p6, p6 = W2.heap.size := ⟨_, rfl⟩
  rw [← hp6] at LS0 ⊢
  have zW4 : W4.heap.size = p6 + 1 + 1 + 1 := by rw [hW4, World.size_alloc, z2, z1, hp6]
  have Z4 := Lib.hid zW4
  clear hW4 z1 z2 zW4 B2 hBS hmk
  have hLS := Lib.hid (LS0.below (Below.refl W4.heap.size W4).drew)
  have hList := Lib.hid (setList_any p6 bs W4.drew hL6.out hLS.out.b6)
  have hPut := Lib.hid fun (W3 : World) (v : Value) (hb : Below W4.drew.heap.size W4.drew W3) (hv : OW W3 W4.drew.heap.size W3.heap.size v (mkT bs)) => LS.put (k := cs.length) hLS.out hb hv
  have u7 := LS0.b7.cell
  have i0' : (0 : Int) ≤ (cs.length : Int) := by omega
  have i1 : (cs.length : Int) < (cs.length : Int) + 1 := by omega
  have i2 : cs.length < cs.length + 1 := by omega
  have hw1 : IntKind.i64.wrap ((cs.length : Int) + 1) = (cs.length : Int) + 1 := by rw [IntKind.wrap_i64]; omega
  have u7d : W4.drew.cell? ⟨p6 + 1 + 1, 0, none⟩ = some (.slice (some ⟨p6 + 1, 0, none⟩) (cs.length + 1) (cs.length + 1)) := u7
  have hPut := Lib.hid hPut.out
  clear hp6 LS0 u7
  -- REGION 5 BEGIN
  refine region_out (S := fun w' => w'.cell? ⟨p6 + 1 + 1, 0, none⟩ = some (.slice (some ⟨p6 + 1, 0, none⟩) (cs.length + 1) (cs.length + 1))) (by kernel_rfl) (fun _ _ h => h) u7d (fun hHeld => ?_)
  refine wpAnyH_take (i := 0) (v := ?_) rfl (by kernel_rfl) (by kernel_rfl) (by kernel_rfl) (fun _ _ _ h => h) (Or.inl ⟨by rfl, ?_⟩) (by assumption) ?_
  rotate_left 1
  · (intro w hSw; (try dsimp only at hSw); go_simp; try with_reducible rfl)
  try simp only [Act.put, List.setIfInBounds_toArray, List.set_cons_zero, List.set_cons_succ]
  refine wpAnyH_take (i := 1) (v := ?_) rfl (by kernel_rfl) (by kernel_rfl) (by kernel_rfl) (fun _ _ _ h => h) (Or.inl ⟨by rfl, ?_⟩) (by assumption) ?_
  rotate_left 1
  · (intro w hSw; (try dsimp only at hSw); go_simp; try with_reducible rfl)
  try simp only [Act.put, List.setIfInBounds_toArray, List.set_cons_zero, List.set_cons_succ]
  refine wpAnyH_take (i := 2) (v := ?_) rfl (by kernel_rfl) (by kernel_rfl) (by kernel_rfl) (fun _ _ _ h => h) (Or.inl ⟨by rfl, ?_⟩) (by assumption) ?_
  rotate_left 1
  · (intro w hSw; (try dsimp only at hSw); go_simp; try with_reducible rfl)
  try simp only [Act.put, List.setIfInBounds_toArray, List.set_cons_zero, List.set_cons_succ]
  refine wpAnyH_ready (rs := [3]) (by kernel_rfl) (by simp) ?_
  refine AllReadyH.cons rfl (fun K hK => ?_) AllReadyH.nil
  try simp only [List.getElem_toArray, List.getElem_cons_zero, List.getElem_cons_succ]
  go_simp
  go_at_call 181
  refine hList.out.mono ?_
  rintro e w3 ⟨A3, c3, rfl, ho3, hb3⟩
  have hL3 := LS.below hLS.out hb3
  have u73 := hL3.b7.cell
  obtain ⟨vs3, hcb3, hvn3, _⟩ := hL3.rows
  have f3 := hcb3.frozen cs.length
  have k3 := (hcb3.cell cs.length).trans (List.getElem?_eq_getElem (by omega))
  have hL4 := Lib.hid (hPut.out w3 _ hb3 ho3)
  have u74 := hL4.out.b7.cell
  refine hK.out _ _ (u73) (fun hHeld => ?_)
  clear hK K
  try simp only [Act.put, List.setIfInBounds_toArray, List.set_cons_zero, List.set_cons_succ]
  refine wpAnyH_take (i := 4) (v := ?_) rfl (by kernel_rfl) (by kernel_rfl) (by kernel_rfl) (fun _ _ _ h => h) (Or.inl ⟨by rfl, ?_⟩) (by assumption) ?_
  rotate_left 1
  · (intro w hSw; (try dsimp only at hSw); go_simp; try with_reducible rfl)
  try simp only [Act.put, List.setIfInBounds_toArray, List.set_cons_zero, List.set_cons_succ]
  refine wpAnyH_ready (rs := [5]) (by kernel_rfl) (by simp) ?_
  refine AllReadyH.cons rfl (fun K hK => ?_) AllReadyH.nil
  try simp only [List.getElem_toArray, List.getElem_cons_zero, List.getElem_cons_succ]
  go_simp
  refine hK.out _ _ (u74) (fun hHeld => ?_)
  clear hK K
  try simp only [Act.put, List.setIfInBounds_toArray, List.set_cons_zero, List.set_cons_succ]
  refine wpAnyH_done (by kernel_rfl) ?_ _
  try simp only [Act.put, List.setIfInBounds_toArray, List.set_cons_zero, List.set_cons_succ]
  -- REGION 5 END
  dsimp only [OnlyN]
  have LS5 := hL4.out
  obtain ⟨W5, hW5⟩ : ∃ W5, W5 = w3.setCell ⟨p6 + 1, cs.length, none⟩ (.slice A3 (mkT bs).length c3) := ⟨_, rfl⟩
  rw [← hW5] at LS5 ⊢
  have L5 := Lib.hid LS5
  have hz45 : Hid (W4.heap.size ≤ W5.heap.size) := by have := hb3.size; rw [Hid, hW5, World.size_setCell]; exact this
  clear hW5 LS5 hL4 hL3 u73 u74 hcb3 f3 k3 hb3 ho3 hList hPut hLS u7d i0' i1 i2 hvn3 hw1
  gi_wp2
  refine ⟨trivial, (bwI_in Fence.wide 5 trivial rfl A cs.length c W5).mono ?_⟩
  rintro e W9 ⟨rfl, rfl⟩
  have a9 := (Below.refl W5.heap.size W5).alloc (Nat.le_refl _) (.cells #[.slice A cs.length c] 42)
  have L9 := Lib.hid (L5.out.below a9)
  have TB9 := Lib.hid (BX.new W5 42 (.slice A cs.length c))
  have hes9 := Lib.hid (hE.out _ L9.out.be)
  have Z9 := World.size_alloc W5 (.cells #[.slice A cs.length c] 42)
  obtain ⟨Bs, hBs⟩ : ∃ Bs, Bs = W5.heap.size := ⟨_, rfl⟩
  obtain ⟨W9, hW9⟩ : ∃ W9, W9 = W5.alloc (.cells #[.slice A cs.length c] 42) := ⟨_, rfl⟩
  rw [← hBs, ← hW9]
  rw [← hW9] at L9 hes9 TB9 Z9
  rw [← hBs] at TB9 Z9
  have Zb := Lib.hid (show p6 + 1 + 1 < Bs by have := Z4.out; have := hz45.out; omega)
  have Z9h := Lib.hid Z9
  have B9 := Lib.hid L9.out.be
  have Hp := Lib.hid L9.out.h6
  clear a9 L5 hW9 hBs Z4 hz45 Z9 hE
  gi_wp2
  refine wpIn_rangeFunc_ownH rfl (by omega) (gf := 244) (lb := #[.pointer (some ⟨Bs, 0, none⟩)]) rfl trivial (enters_of Try.func244 (by kernel_rfl) rfl)
    (bwI_stops Fence.wide 5 trivial rfl (by omega) Bs w.heap.size L B A c cs hl W9 B9.out.size TB9.out hes9.out hBB.out) KpB.t (KpB.b B9.out.size) (Below.refl _ _) (fun _ => rfl)
    (fun pre W => LS w W p6 (p6 + 1 + 1) (p6 + 1) (cs.length + 1) (lsP bs pre).2 (lsP bs pre).1 ∧ Bs + 1 ≤ W.heap.size)
    (fun _ _ _ => False) ?hI ?hIx ?h0
    (fun x a' W => ∃ Bx, Bs < Bx ∧ XB W Bx x.1.2 ∧ a' = { tmps := #[.slice A cs.length c, .slice A' out.length c', undef, undef, .slice none 0 0, .bool false, .pointer (some ⟨p6, 0, none⟩), .pointer (some ⟨p6 + 1 + 1, 0, none⟩), .int .i64 (x.1.1 : Int), .pointer (some ⟨Bx, 0, none⟩), .slice A cs.length c, .bool true, .bool false, .bool false, .slice A' out.length c', .bool true, .bool false, .bool false, .slice A' out.length c', .agg #[.bool b0, .bool b1, .bool b2, .bool b3, .bool b4, .bool b5], .slice A cs.length c, .int .i64 (cs.length : Int), .int .i64 ((cs.length : Int) + 1), .slice (some ⟨p6 + 1, 0, none⟩) (cs.length + 1) (cs.length + 1), .slice (some ⟨p6 + 1, 0, none⟩) (cs.length + 1) (cs.length + 1), .slice A cs.length c, .int .i64 (cs.length : Int), .slice A3 (mkT bs).length c3, .pointer (some ⟨p6 + 1, cs.length, none⟩), .slice A cs.length c, .func (.func 244) #[] #[.pointer (some ⟨Bs, 0, none⟩)], .int .i64 (x.1.1 : Int), inV x.1.2, undef, undef, undef, undef, undef, undef, undef], defers := [] })
    ?hAx ?assign ?body ?done ?stop
  case hAx =>
    rintro x a' _ X YY row ⟨Bx, h1, h2, h3⟩ hg hr
    refine ⟨Bx, h1, ?_, h3⟩
    have hne : row ≠ some Bx := row_not (show X.heap[Bx]? = some (.cells (In.enc x.1.2).toArray 56 (0, 0)) from h2) (fun r e => (hr r e).2)
    exact (hg.block Bx (CB.lt h2) (fun e => hne e.symm)).trans h2
  case assign =>
    rintro l pre ⟨⟨k, ⟨op, d, a, b, m⟩⟩, hk, hy⟩ W K ⟨hD, hlt⟩ hK
    have ha := (Below.refl W.heap.size W).alloc (Nat.le_refl _) (.cells #[.string op, .int .i64 d, .int .i64 a, .int .i64 b, .int .i64 m] 56)
    have h1 := hK { tmps := #[.slice A cs.length c, .slice A' out.length c', undef, undef, .slice none 0 0, .bool false, .pointer (some ⟨p6, 0, none⟩), .pointer (some ⟨p6 + 1 + 1, 0, none⟩), .int .i64 (k : Int), .pointer (some ⟨W.heap.size, 0, none⟩), .slice A cs.length c, .bool true, .bool false, .bool false, .slice A' out.length c', .bool true, .bool false, .bool false, .slice A' out.length c', .agg #[.bool b0, .bool b1, .bool b2, .bool b3, .bool b4, .bool b5], .slice A cs.length c, .int .i64 (cs.length : Int), .int .i64 ((cs.length : Int) + 1), .slice (some ⟨p6 + 1, 0, none⟩) (cs.length + 1) (cs.length + 1), .slice (some ⟨p6 + 1, 0, none⟩) (cs.length + 1) (cs.length + 1), .slice A cs.length c, .int .i64 (cs.length : Int), .slice A3 (mkT bs).length c3, .pointer (some ⟨p6 + 1, cs.length, none⟩), .slice A cs.length c, .func (.func 244) #[] #[.pointer (some ⟨Bs, 0, none⟩)], .int .i64 (k : Int), inV ⟨op, d, a, b, m⟩, undef, undef, undef, undef, undef, undef, undef], defers := [] } (W.alloc (.cells #[.string op, .int .i64 d, .int .i64 a, .int .i64 b, .int .i64 m] 56)) ((KeepsOthers.alloc _ _).from _) (keeps_belowI ha hD.be.size).2 ⟨hD.below ha, Nat.le_trans hlt ha.size⟩ ⟨W.heap.size, hlt, XB.newI W ⟨op, d, a, b, m⟩, rfl⟩
    dsimp only [inV] at h1
    have h1h := Lib.hid h1
    clear h1 hK hD
    dsimp only [inV]
    gi_wp2
    exact h1h.out
  case hI =>
    rintro pre W W' row ⟨hD, hlt⟩ hg hr
    exact ⟨hD.kept hg (fun r e => ⟨Nat.le_trans B9.out.size (hr r e).1, (hr r e).2⟩), Nat.le_trans hlt hg.size⟩
  case hIx => rintro cd pre W W' row hF; exact hF.elim
  case h0 => exact ⟨L9.out, by rw [Z9h.out]; exact Nat.le_refl _⟩
  case stop =>
    rintro D cd pre W _ _ hh _
    exact hh.elim
  case body =>
    rintro l pre x a' W hl0 _ ⟨hD, hWB⟩ ⟨Bx, hBx, hX, rfl⟩ hpl
    obtain ⟨⟨k, y⟩, hk, hy⟩ := x
    have hk' : k < cs.length := hk
    have hgd := Lib.hid (show goodIn y = true from hall.out y (List.mem_of_getElem? hy))
    have hsn := Lib.hid (lsP_snoc bs pre ⟨(k, y), hk, hy⟩)
    have hln := lsP_len bs hL6.out pre
    have hln2 := Lib.hid hln.2
    clear hln
    generalize hP' : lsP bs (pre ++ [⟨(k, y), hk, hy⟩]) = P' at *
    have HP := Lib.hid hP'
    clear hP'
    generalize lsP bs pre = P at *
    obtain ⟨xss, bb⟩ := P
    dsimp only at *
    obtain ⟨op, d, a, b, m⟩ := y
    dsimp only [inV] at *
    obtain ⟨n0, n1, n2, n3, n4⟩ := XB.cells hX
    dsimp only at n0 n1 n2 n3 n4
    have D1 := Lib.hid hD
    have hGB := Lib.hid (goBack_any p6 bb ⟨op, d, a, b, m⟩ W hln2.out hgd.out D1.out.b6)
    have hWBh := Lib.hid hWB
    have hF : Hid (P' = (xss.set k (mkT (bkB bb ⟨op, d, a, b, m⟩)), bkB bb ⟨op, d, a, b, m⟩)) := hsn.out
    have hb6' : Hid ((bkB bb ⟨op, d, a, b, m⟩).length = 6) := by rw [Hid, bkB_len]; exact hln2.out
    clear hD hX hsn hWB
    gi_wp2
    refine ⟨trivial, (CallsIn.inRound l (callsIn_wide.2 hGB.out)).mono ?_⟩
    rintro e W2' ⟨rfl, hbt, hch⟩
    have hkp2 := Lib.hid (keeps_bt (n := w.heap.size) (Bs := Bs) (t := 42) D1.out.b6 hch Hp.out (by have := Zb.out; omega))
    have D2 := Lib.hid (D1.out.lay hch hbt)
    have hz2 := Lib.hid hch.size
    clear n0 n1 n2 n3 n4 hGB hbt hch D1
    generalize bkB bb ⟨op, d, a, b, m⟩ = bn at *
    have hLS := Lib.hid (D2.out.below (Below.refl W2'.heap.size W2').drew)
    have hList := Lib.hid (setList_any p6 bn W2'.drew hb6'.out hLS.out.b6)
    have hPut := Lib.hid fun (W3 : World) (v : Value) (hb : Below W2'.drew.heap.size W2'.drew W3) (hv : OW W3 W2'.drew.heap.size W3.heap.size v (mkT bn)) => LS.put (k := k) hLS.out hb hv
    have u7d := hLS.out.b7.cell
    have i0' : (0 : Int) ≤ (k : Int) := by omega
    have i1 : (k : Int) < (cs.length : Int) + 1 := by omega
    have i2 : k < cs.length + 1 := by omega
    have hkp3 := Lib.hid fun (W3 : World) (hb : Below W2'.drew.heap.size W2'.drew W3) => keeps_belowI (n := w.heap.size) (Bs := Bs) (t := 42) hb hLS.out.be.size
    gi_wp2
    -- REGION 10 BEGIN
    refine region_round (S := fun w' => w'.cell? ⟨p6 + 1 + 1, 0, none⟩ = some (.slice (some ⟨p6 + 1, 0, none⟩) (cs.length + 1) (cs.length + 1))) (by kernel_rfl) (by kernel_rfl) (fun _ _ h => h) u7d (fun hHeld => ?_)
    refine wpAnyH_take (i := 0) (v := ?_) rfl (by kernel_rfl) (by kernel_rfl) (by kernel_rfl) (fun _ _ _ h => h) (Or.inl ⟨by rfl, ?_⟩) (by assumption) ?_
    rotate_left 1
    · (intro w hSw; (try dsimp only at hSw); go_simp; try with_reducible rfl)
    try simp only [Act.put, List.setIfInBounds_toArray, List.set_cons_zero, List.set_cons_succ]
    refine wpAnyH_take (i := 1) (v := ?_) rfl (by kernel_rfl) (by kernel_rfl) (by kernel_rfl) (fun _ _ _ h => h) (Or.inl ⟨by rfl, ?_⟩) (by assumption) ?_
    rotate_left 1
    · (intro w hSw; (try dsimp only at hSw); go_simp; try with_reducible rfl)
    try simp only [Act.put, List.setIfInBounds_toArray, List.set_cons_zero, List.set_cons_succ]
    refine wpAnyH_ready (rs := [2]) (by kernel_rfl) (by simp) ?_
    refine AllReadyH.cons rfl (fun K hK => ?_) AllReadyH.nil
    try simp only [List.getElem_toArray, List.getElem_cons_zero, List.getElem_cons_succ]
    go_simp
    go_at_call 181
    refine hList.out.mono ?_
    rintro e w3 ⟨A3, c3, rfl, ho3, hb3⟩
    have hL3 := LS.below hLS.out hb3
    have u73 := hL3.b7.cell
    obtain ⟨vs3, hcb3, hvn3, _⟩ := hL3.rows
    have f3 := hcb3.frozen k
    have k3 := (hcb3.cell k).trans (List.getElem?_eq_getElem (by omega))
    have hL4 := Lib.hid (hPut.out w3 _ hb3 ho3)
    have u74 := hL4.out.b7.cell
    refine hK.out _ _ (u73) (fun hHeld => ?_)
    clear hK K
    try simp only [Act.put, List.setIfInBounds_toArray, List.set_cons_zero, List.set_cons_succ]
    refine wpAnyH_take (i := 3) (v := ?_) rfl (by kernel_rfl) (by kernel_rfl) (by kernel_rfl) (fun _ _ _ h => h) (Or.inl ⟨by rfl, ?_⟩) (by assumption) ?_
    rotate_left 1
    · (intro w hSw; (try dsimp only at hSw); go_simp; try with_reducible rfl)
    try simp only [Act.put, List.setIfInBounds_toArray, List.set_cons_zero, List.set_cons_succ]
    refine wpAnyH_ready (rs := [4]) (by kernel_rfl) (by simp) ?_
    refine AllReadyH.cons rfl (fun K hK => ?_) AllReadyH.nil
    try simp only [List.getElem_toArray, List.getElem_cons_zero, List.getElem_cons_succ]
    go_simp
    refine hK.out _ _ (u74) (fun hHeld => ?_)
    clear hK K
    try simp only [Act.put, List.setIfInBounds_toArray, List.set_cons_zero, List.set_cons_succ]
    refine wpAnyH_done (by kernel_rfl) ?_ _
    try simp only [Act.put, List.setIfInBounds_toArray, List.set_cons_zero, List.set_cons_succ]
    -- REGION 10 END
    have hk4 := Lib.hid (hkp3.out w3 hb3)
    have hkc := Lib.hid (keeps_cb (n := w.heap.size) (Bs := Bs) (k := k) (t := 42) (v := .slice A3 (mkT bn).length c3) hcb3 (by have := Hp.out; omega) (by have := Zb.out; omega))
    have hz3 := Lib.hid hb3.size
    have hL4h := Lib.hid hL4.out
    have hdr : KeepsOthers W2' W2'.drew ∧ KpB w.heap.size Bs 42 W2' W2'.drew := ⟨⟨Nat.le_refl _, fun _ _ h _ => h⟩, (Below.refl _ W2').drew, fun _ h => h⟩
    have hdrh := Lib.hid hdr
    clear hL4 hL3 u73 u74 hcb3 f3 k3 hb3 ho3 hList hPut hLS u7d i0' i1 i2 hvn3 hdr hkp3 D2
    dsimp only [OnlyN]
    gi_wp2
    refine ⟨(((hkp2.out.1.trans hdrh.out.1).trans hk4.out.1).trans hkc.out.1).from _, ((hkp2.out.2.t hdrh.out.2).t hk4.out.2).t hkc.out.2, ?_, ?_⟩
    · rw [HP.out, hF.out]; exact hL4h.out
    · rw [World.size_setCell]; exact Nat.le_trans hWBh.out (Nat.le_trans hz2.out hz3.out)
  case done =>
    rintro D ys W hD rfl ⟨hLS, _⟩ hK
    rw [lsP_all] at hLS
    have hDw : w.heap.size ≤ D := Nat.le_trans B9.out.size hD
    have u7 := hLS.b7.cell
    have hLSh := Lib.hid hLS
    have hKh := Lib.hid hK
    clear hLS hK
    gi_wp2
    have rD : ∀ r, some D = some r → w.heap.size ≤ r ∧ ∃ o : Obj, W.heap[r]? = some o ∧ o.isCells = false := fun r e => by cases e; exact ⟨hDw, _, hKh.out, rfl⟩
    have hL2 := hLSh.out.kept (grownBy_putObj' W D (.deferred none)) rD
    obtain ⟨vs, hcb, hvn, hRX⟩ := hL2.rows
    have hX : OX (W.putObj D (.deferred none)) w.heap.size (W.putObj D (.deferred none)).heap.size (.slice (some ⟨p6 + 1, 0, none⟩) (cs.length + 1) (cs.length + 1)) (lvX bs cs) := by
      refine OX.of (vs := vs) ?_ ⟨hRX.len, fun i h1 h2 => ⟨(hRX.row i h1 h2).1, (hRX.row i h1 h2).2.lower (by have := Hp.out; omega)⟩, hRX.apart⟩
      have h := OK.close (enc := encV) (k := 1) (rest := []) (lo := w.heap.size) (hi := (W.putObj D (.deferred none)).heap.size) (cap := cs.length + 1) (xs := vs) encV_one (by rw [flat_encV, List.append_nil]; exact hcb) (by have := Hp.out; omega) hcb.lt (by omega) (by unfold maxLen; omega) (by rw [flat_encV, List.append_nil, hvn]; omega)
      rw [hvn] at h
      exact h
    refine ⟨by simp, .inl ⟨_, _, rfl, run_takeDeferred hKh.out, ?_⟩⟩
    exact ⟨_, results_tmp2 rfl _ _ _, some ⟨p6 + 1, 0, none⟩, cs.length + 1, by rw [hR.out, hO.out, lvX_len]; rfl, by rw [hR.out, lvX_len]; exact hX, hL2.be⟩
end Go.Proofs.Ytmhdijklindipaa

namespace Go.Proofs.Ytmhdijklindipaa
open Go.RowKit
set_option linter.unusedVariables false

/-! ### DepthOf -/
def dstep (i : Nat) (d : List Int) (k : Int) : List Int := d.set i (max (d.getD i 0) (d.getD k.toNat 0 + 1))
def depAt (es : List Nd) : Nat → List Int
  | 0 => List.replicate es.length 0
  | k + 1 => (parts (es.getD k zeroNd)).foldl (dstep k) (depAt es k)
def depR (es : List Nd) : Int := if good es = true then (depAt es es.length).getD (es.length - 1) 0 else 0
theorem depAt_succ {es : List Nd} {k : Nat} (h : k < es.length) : depAt es (k + 1) = (parts es[k]).foldl (dstep k) (depAt es k) := by
  rw [depAt, List.getD_eq_getElem?_getD, List.getElem?_eq_getElem h]; rfl
theorem foldl_dstep_len (i : Nat) (ps : List Int) (u : List Int) : (ps.foldl (dstep i) u).length = u.length := by
  induction ps generalizing u with
  | nil => rfl
  | cons p ps ih => rw [List.foldl_cons, ih]; simp [dstep]
theorem Bd.dstep {c : Int} {u : List Int} (h : Bd c u) (i : Nat) (k : Int) : Bd (c + 1) (dstep i u k) := by
  intro j
  have h1 := h j
  have h2 := h k.toNat
  have h3 := h i
  unfold Proofs.Ytmhdijklindipaa.dstep
  rw [List.getD_eq_getElem?_getD, List.getElem?_set]
  rw [List.getD_eq_getElem?_getD] at h1
  split
  · split
    · simp only [Option.getD_some]; omega
    · simp; omega
  · omega
theorem foldl_dstep_Bd (i : Nat) (ps : List Int) : ∀ {c : Int} {u : List Int}, Bd c u → Bd (c + ps.length) (ps.foldl (dstep i) u) := by
  induction ps with
  | nil => intro c u h; simpa using h
  | cons p ps ih => intro c u h; rw [List.foldl_cons]; exact (ih (h.dstep i p)).mono (by simp; omega)
theorem depAt_len (es : List Nd) (k : Nat) : (depAt es k).length = es.length := by
  induction k with
  | zero => simp [depAt]
  | succ k ih => rw [depAt, foldl_dstep_len, ih]
theorem depAt_Bd {es : List Nd} {k : Nat} (h : k ≤ es.length) : Bd (2 * k) (depAt es k) := by
  induction k with
  | zero => intro i; rw [depAt, List.getD_eq_getElem?_getD, List.getElem?_replicate]; split <;> simp
  | succ k ih =>
    rw [depAt_succ (by omega)]
    have := parts_len es[k]
    exact (foldl_dstep_Bd k _ (ih (by omega))).mono (by omega)

theorem l1Most_any (a b : Int) (w : World) : Calls Try.prog 183 #[.int .i64 a, .int .i64 b] w fun e w' => e = .returned (.int .i64 (max a b)) ∧ w = w' := by
  by_cases h : b < a
  · go_enter Try.func183, Try.ntmps183
    go_wp2
    go_ret
    exact ⟨ret_int (by omega), rfl⟩
  · go_enter Try.func183, Try.ntmps183
    go_wp2
    go_ret
    exact ⟨ret_int (by omega), rfl⟩

set_option maxRecDepth 100000 in
set_option maxHeartbeats 8000000 in
theorem sDepthOf_any (L B : Nat) (A : Option Addr) (c : Nat) (es : List Nd) (w : World) (hl : es.length ≤ 1048576) (hes : NS w L B A es) (hB : B ≤ w.heap.size) :
    Calls Try.prog 105 #[.slice A es.length c] w fun e w' => e = .returned (.tuple #[.int .i64 (depR es), .bool (good es)]) ∧ Below w.heap.size w w' := by
  have H := Lib.hid (exGood_any L B A c es w hl hes hB)
  have hE := Lib.hid hes
  have hBB := Lib.hid hB
  clear hes hB
  cases hg : good es
  · have hR2 : Hid (depR es = 0) := by simp [Hid, depR, hg]
    go_enter Try.func105, Try.ntmps105
    go_wp2_with (fail)
    refine H.out.mono ?_
    rintro e w2 ⟨rfl, hb⟩
    have hbb := Lib.hid hb
    clear hb
    go_wp2_with (fail)
    go_ret2
    exact ⟨by rw [hR2.out]; rfl, hbb.out⟩
  have hR2 : Hid (depR es = (depAt es es.length).getD (es.length - 1) 0) := by simp [Hid, depR, hg]
  obtain ⟨hl1, hl24, hok⟩ := good_len hg
  have hP := Lib.hid (ok_parts hok)
  have hmk := run_make_ints es.length (by omega)
  clear hok
  go_enter Try.func105, Try.ntmps105
  go_wp2_with (fail)
  refine H.out.mono ?_
  rintro e w2 ⟨rfl, hb⟩
  have hbb := Lib.hid hb
  have hsz := hb.size
  clear hb
  have hU0 : Hid (IB (w2.alloc (.cells (intCells (zeros es.length)) 3)) w2.heap.size 3 (depAt es 0)) := heap_alloc_new w2 _
  have hBel0 := Lib.hid ((Below.refl w2.heap.size w2).alloc (Nat.le_refl _) (.cells (intCells (zeros es.length)) 3))
  have hE2 : Hid (NS w2 L B A es) := hE.out.below hbb.out hBB.out
  have hB2 : B ≤ w2.heap.size := Nat.le_trans hBB.out hsz
  go_wp2
  go_loopw [17] (fun i wr => ∃ k : Nat, k ≤ es.length ∧ i = .int .i64 k ∧ IB wr w2.heap.size 3 (depAt es k) ∧ Below w2.heap.size w2 wr) (fun i _ => es.length - (intOf i).toNat)
  case atStart => exact ⟨0, Nat.zero_le _, rfl, hU0.out, hBel0.out⟩
  case round =>
    obtain ⟨k, hk, rfl, hib, hbel⟩ := hrel
    have hIB := Lib.hid hib
    have hglt := hib.lt
    clear hib hmk hBel0 hU0
    by_cases hlt : k < es.length
    · obtain ⟨b, o, rfl, ⟨_, hbB⟩, hc⟩ := (hE2.out.below hbel hB2) (by omega)
      obtain ⟨c1, c2, c3, c4⟩ := hc k hlt
      clear hc
      have hPk : Hid (∀ p ∈ parts es[k], 0 ≤ p ∧ p < es.length) := hP.out _ (List.getElem_mem hlt)
      have hSk := Lib.hid (depAt_succ hlt)
      have hBd := Lib.hid (depAt_Bd (es := es) (k := k) hk)
      have hLen := Lib.hid (depAt_len es k)
      have hp2 := parts_len es[k]
      clear hP
      generalize hnd : es[k] = nd at *
      obtain ⟨s, a, bb, v⟩ := nd
      clear hnd
      go_wp2_with (fail)
      refine (exParts_any _ _ _ _ _).mono ?_
      rintro e w3 ⟨A2, cc, rfl, hIS, hb2⟩
      have hI2 := Lib.hid hIS
      have hbel2 : Below w2.heap.size w2 w3 := hbel.trans (((Below.refl _ _).alloc hbel.size _).trans (hb2.mono (by simp; have := hbel.size; omega)))
      have hIB2 : Hid (IB w3 w2.heap.size 3 (depAt es k)) := (show IB _ _ _ _ from hIB.out).below ((Below.refl wr.heap.size wr).alloc (Nat.le_refl _) _ |>.trans (hb2.mono (by simp))) hglt
      have hsz2 := hb2.size
      simp at hsz2
      clear hIS hb2 hIB c1 c2 c3 c4 hbel
      generalize hps : parts ⟨s, a, bb, v⟩ = ps at *
      clear hps
      go_wp2_with (fail)
      go_loopw [25] (fun i wi => ∃ j : Nat, j ≤ ps.length ∧ i = .int .i64 j ∧ IB wi w2.heap.size 3 ((ps.take j).foldl (dstep k) (depAt es k)) ∧ Below w2.heap.size w2 wi ∧ IS wi (w2.heap.size + 1) wi.heap.size A2 ps) (fun i _ => ps.length - (intOf i).toNat)
      case atStart =>
        refine ⟨0, Nat.zero_le _, rfl, hIB2.out, hbel2, hI2.out.more ?_ (Nat.le_refl _)⟩
        simp; omega
      case round =>
        obtain ⟨j, hj, rfl, hib, hbel3, his⟩ := hrel
        have hIB3 := Lib.hid hib
        have hIS3 := Lib.hid his
        have hBel3 := Lib.hid hbel3
        clear hib his hbel3
        by_cases hjt : j < ps.length
        · obtain ⟨b2, o2, rfl, hbb2, hc⟩ := hIS3.out (by omega)
          have hcj := hc j hjt
          obtain ⟨hq0, hq1⟩ := hPk.out _ (List.getElem_mem hjt)
          obtain ⟨q, hq⟩ := Int.eq_ofNat_of_zero_le hq0
          have hql : q < es.length := by omega
          rw [hq] at hcj
          have hQ := Lib.hid hq
          clear hc hq hq0 hq1
          have hlen3 : ((ps.take j).foldl (dstep k) (depAt es k)).length = es.length := by rw [foldl_dstep_len]; exact hLen.out
          have hcu := hIB3.out.cell q (by rw [hlen3]; exact hql)
          have hck := hIB3.out.cell k (by rw [hlen3]; exact hlt)
          have hfk := hIB3.out.frozen k
          have hbd3 := (foldl_dstep_Bd k (ps.take j) hBd.out) q
          have hbd4 := (foldl_dstep_Bd k (ps.take j) hBd.out) k
          have hlj : (ps.take j).length ≤ 2 := by rw [List.length_take]; omega
          have hsnoc : (ps.take (j + 1)).foldl (dstep k) (depAt es k) = ((ps.take j).foldl (dstep k) (depAt es k)).set k (max (((ps.take j).foldl (dstep k) (depAt es k)).getD k 0) (((ps.take j).foldl (dstep k) (depAt es k)).getD q 0 + 1)) := by
            rw [List.take_succ_eq_append_getElem hjt, List.foldl_append, hQ.out]; rfl
          have hS3 := Lib.hid hsnoc
          generalize (ps.take j).foldl (dstep k) (depAt es k) = us at *
          have hcu' : wr.cell? ⟨w2.heap.size, q, none⟩ = some (.int .i64 (us.getD q 0)) := by
            rw [hcu, List.getD_eq_getElem?_getD, List.getElem?_eq_getElem (by omega)]; rfl
          have hck' : wr.cell? ⟨w2.heap.size, k, none⟩ = some (.int .i64 (us.getD k 0)) := by
            rw [hck, List.getD_eq_getElem?_getD, List.getElem?_eq_getElem (by omega)]; rfl
          clear hcu hck hsnoc hlen3
          generalize us.getD q 0 = x at *
          generalize us.getD k 0 = y at *
          obtain ⟨hx0, hx1⟩ := hbd3
          obtain ⟨hy0, hy1⟩ := hbd4
          have hx2 : x ≤ 1000 := by omega
          have hy2 : y ≤ 1000 := by omega
          clear hx1 hy1
          have hkeep : ∀ (z : Int) (p : Addr), p.block ≠ w2.heap.size → (wr.setCell ⟨w2.heap.size, k, none⟩ (.int .i64 z)).cell? p = wr.cell? p := fun z p hne => World.cell?_setCell_other wr _ p _ (fun e => by subst e; exact hne rfl)
          have hK := Lib.hid hkeep
          clear hkeep
          have i1 : (q : Int) < (es.length : Int) := by omega
          have i2 : (0 : Int) ≤ (q : Int) := by omega
          have i3 : (k : Int) < (es.length : Int) := by omega
          have i4 : (0 : Int) ≤ (k : Int) := by omega
          have i5 : IntKind.i64.wrap (x + 1) = x + 1 := by rw [IntKind.wrap_i64]; omega
          go_wp2_with (fail)
          go_region_law (go_simp; go_at_call 183; refine (l1Most_any _ _ _).mono ?_; rintro e w' ⟨rfl, rfl⟩)
          all_goals
            go_wp2
            go_roundw
            case rel =>
              refine ⟨j + 1, by omega, by go_num, ?_, (hBel3.out.setCell (Nat.le_refl _) _).drew, ?_⟩
              · rw [hS3.out]; exact hIB3.out.set k (max y (x + 1))
              · have := hIS3.out.keep (w' := wr.setCell ⟨w2.heap.size, k, none⟩ (.int .i64 (max y (x + 1)))) fun p hp _ => hK.out _ p (by omega)
                exact this.more (Nat.le_refl _) (by simp [World.setCell])
            case measure => simp [intOf]; omega
        · obtain rfl : j = ps.length := by omega
          go_wp2
          go_roundw
          case rel =>
            refine ⟨k + 1, by omega, by go_num, ?_, hBel3.out⟩
            have := hIB3.out
            rw [List.take_length] at this
            rw [hSk.out]; exact this
          case measure => simp [intOf]; omega
    · obtain rfl : k = es.length := by omega
      obtain ⟨m, hm⟩ : ∃ m, es.length = m + 1 := ⟨es.length - 1, by omega⟩
      have hlen := depAt_len es es.length
      have hR3 := hR2.out
      have hib := hIB.out
      clear hIB hR2
      generalize depAt es es.length = D at *
      have hcm := hib.cell m (by omega)
      have hRm : depR es = D[m]'(by omega) := by
        rw [hR3, List.getD_eq_getElem?_getD, show es.length - 1 = m by omega, List.getElem?_eq_getElem (by omega)]; rfl
      generalize D[m]'(by omega) = z at *
      have hRm := Lib.hid hRm
      have HB := Lib.hid (hbb.out.trans (hbel.mono hsz))
      clear hlen hR3 hib
      rw [hm]
      go_wp2
      go_ret2
      exact ⟨by rw [hRm.out]; rfl, HB.out⟩
end Go.Proofs.Ytmhdijklindipaa

/- LiveSets, LiveBefore, MostAlive: both sides. -/
namespace Go.Proofs.Ytmhdijklindipaa
open Go.RowKit
set_option linter.unusedVariables false
set_option maxRecDepth 100000

theorem lsR_small (cs : List In) (out : List Int) : SmallX (lsR cs out) := by
  unfold lsR
  split
  · rename_i h
    unfold ddOk at h
    rw [Bool.and_eq_true] at h
    have h1 := okCode_len h.1
    have hs : ∀ (bs : List Bool) (l : List In), ((lvX bs l).map List.length).sum ≤ 6 * (l.length + 1) := by
      intro bs l
      induction l with
      | nil => have := mkT_len6 bs; simp [lvX]; omega
      | cons x l ih => have := mkT_len6 (lvS bs (x :: l)); simp only [lvX, List.map_cons, List.sum_cons, List.length_cons]; omega
    refine ⟨by rw [lvX_len]; omega, ?_⟩
    have := hs (setsTo out out.length) cs
    omega
  · exact ⟨by simp, by simp⟩
theorem ddOk_no1 {cs : List In} (out : List Int) (h : okCode cs = false) : ddOk cs out = false ∧ lsR cs out = [] := by
  have h1 : ddOk cs out = false := by unfold ddOk; rw [h]; rfl
  exact ⟨h1, by unfold lsR; rw [h1]; rfl⟩
theorem ddOk_no2 (cs : List In) {out : List Int} (h : riseB out = false) : ddOk cs out = false ∧ lsR cs out = [] := by
  have h1 : ddOk cs out = false := by unfold ddOk; rw [h]; simp
  exact ⟨h1, by unfold lsR; rw [h1]; rfl⟩
theorem ddOk_yes {cs : List In} {out : List Int} (h1 : okCode cs = true) (h2 : riseB out = true) : ddOk cs out = true ∧ lsR cs out = lvX (setsTo out out.length) cs := by
  have h3 : ddOk cs out = true := by unfold ddOk; rw [h1, h2]; rfl
  exact ⟨h3, by unfold lsR; rw [if_pos h3]⟩

set_option maxHeartbeats 4000000 in
theorem iLiveSets_k (L B : Nat) (A : Option Addr) (c : Nat) (cs : List In) (L' B' : Nat) (A' : Option Addr) (c' : Nat) (out : List Int) (w : World) (hl : cs.length ≤ 1048576) (hes : RS In.enc 5 w L B A cs) (hB : B ≤ w.heap.size) (hn : out.length ≤ 1048576) (hns : IS w L' B' A' out) (hB' : B' ≤ w.heap.size) :
    Calls Try.prog 63 #[.slice A cs.length c, .slice A' out.length c'] w (ResLiveSets (lsR cs out) (ddOk cs out) w) := by
  have H := Lib.hid (IsCode_any L B A c cs w hl hes hB)
  cases hk : okCode cs
  · have hR := Lib.hid (ddOk_no1 out hk)
    rw [hk] at H
    clear hk hes hns
    go_enter Try.func63, Try.ntmps63
    go_wp2_with (fail)
    refine H.out.mono ?_
    rintro e w1 ⟨rfl, hb1⟩
    have hbh := Lib.hid hb1
    clear hb1
    go_wp2
    go_ret2
    rw [hR.out.1, hR.out.2]
    exact ⟨none, 0, rfl, OX.nil _ _ _, hbh.out⟩
  cases hr : riseB out
  · have H2 := Lib.hid fun (W : World) (hW : Below w.heap.size w W) => areRegisters_any L' B' A' c' out W hn (hns.below hW hB')
    have hR := Lib.hid (ddOk_no2 cs hr)
    rw [hk] at H
    rw [hr] at H2
    clear hk hr hes hns
    go_enter Try.func63, Try.ntmps63
    go_wp2_with (fail)
    refine H.out.mono ?_
    rintro e w1 ⟨rfl, hb1⟩
    have hbh := Lib.hid hb1
    clear hb1
    go_wp2_with (fail)
    refine (H2.out _ hbh.out).mono ?_
    rintro e w2 ⟨rfl, rfl⟩
    go_wp2
    go_ret2
    rw [hR.out.1, hR.out.2]
    exact ⟨none, 0, rfl, OX.nil _ _ _, hbh.out⟩
  exact iLiveSets_go L B L' B' A A' c c' cs out w hk hr hn hes hB hns hB'
set_option maxHeartbeats 4000000 in
theorem sLiveSets_k (L B : Nat) (A : Option Addr) (c : Nat) (cs : List In) (L' B' : Nat) (A' : Option Addr) (c' : Nat) (out : List Int) (w : World) (hl : cs.length ≤ 1048576) (hes : RS In.enc 5 w L B A cs) (hB : B ≤ w.heap.size) (hn : out.length ≤ 1048576) (hns : IS w L' B' A' out) (hB' : B' ≤ w.heap.size) :
    Calls Try.prog 64 #[.slice A cs.length c, .slice A' out.length c'] w (ResLiveSets (lsR cs out) (ddOk cs out) w) := by
  have H := Lib.hid (cdCode_any L B A c cs w hl hes hB)
  cases hk : okCode cs
  · have hR := Lib.hid (ddOk_no1 out hk)
    rw [hk] at H
    clear hk hes hns
    go_enter Try.func64, Try.ntmps64
    go_wp2_with (fail)
    refine H.out.mono ?_
    rintro e w1 ⟨rfl, hb1⟩
    have hbh := Lib.hid hb1
    clear hb1
    go_wp2
    go_ret2
    rw [hR.out.1, hR.out.2]
    exact ⟨none, 0, rfl, OX.nil _ _ _, hbh.out⟩
  have H2 := Lib.hid fun (W : World) (hW : Below w.heap.size w W) => cdWanted_any L' B' A' c' out W hn (hns.below hW hB')
  cases hr : riseB out
  · have hR := Lib.hid (ddOk_no2 cs hr)
    rw [hk] at H
    rw [hr] at H2
    clear hk hr hes hns
    go_enter Try.func64, Try.ntmps64
    go_wp2_with (fail)
    refine H.out.mono ?_
    rintro e w1 ⟨rfl, hb1⟩
    have hbh := Lib.hid hb1
    clear hb1
    go_wp2_with (fail)
    refine (H2.out _ hbh.out).mono ?_
    rintro e w2 ⟨rfl, rfl⟩
    go_wp2
    go_ret2
    rw [hR.out.1, hR.out.2]
    exact ⟨none, 0, rfl, OX.nil _ _ _, hbh.out⟩
  have hR := Lib.hid (ddOk_yes hk hr)
  have hX := Lib.hid fun (W : World) (hW : Below w.heap.size w W) => (show Calls Try.prog 182 #[.slice A cs.length c, .slice A' out.length c'] W (SetsGot W (lvX (setsTo out out.length) cs)) from by
    have h := cdSets_any L B L' B' A A' c c' cs (setsTo out out.length) W (okCode_len hk) (okCode_all hk) (setsTo_len _ _) (hes.below hW hB) (Nat.le_trans hB hW.size) (by rw [(rise_bits hr).2]; exact hns.below hW hB') (Nat.le_trans hB' hW.size)
    rw [(rise_bits hr).2] at h
    exact h)
  rw [hk] at H
  rw [hr] at H2
  clear hk hr hes hns
  generalize lvX (setsTo out out.length) cs = X at *
  go_enter Try.func64, Try.ntmps64
  go_wp2_with (fail)
  refine H.out.mono ?_
  rintro e w1 ⟨rfl, hb1⟩
  have hbh := Lib.hid hb1
  clear hb1
  go_wp2_with (fail)
  refine (H2.out _ hbh.out).mono ?_
  rintro e w2 ⟨rfl, rfl⟩
  go_wp2_with (fail)
  refine (hX.out _ hbh.out).mono ?_
  rintro e w3 ⟨A3, c3, rfl, ho3, hb3⟩
  have hO3 := Lib.hid ho3
  have hB3 := Lib.hid (hbh.out.trans (hb3.mono hbh.out.size))
  have hz := Lib.hid hbh.out.size
  clear ho3 hb3
  go_wp2
  go_ret2
  rw [hR.out.1, hR.out.2]
  refine ⟨A3, c3, rfl, ?_, hB3.out⟩
  obtain ⟨vs, hOv, hRX⟩ := hO3.out.parts
  exact OX.of (hOv.lower hz.out) ⟨hRX.len, fun i h1 h2 => ⟨(hRX.row i h1 h2).1, (hRX.row i h1 h2).2.lower hz.out⟩, hRX.apart⟩
theorem OX.lower {w : World} {lo lo' hi : Nat} {v : Value} {xss : List (List Int)} (h : OX w lo hi v xss) (hl : lo' ≤ lo) : OX w lo' hi v xss := by
  obtain ⟨vs, hOv, hRX⟩ := h.parts
  exact OX.of (hOv.lower hl) ⟨hRX.len, fun i h1 h2 => ⟨(hRX.row i h1 h2).1, (hRX.row i h1 h2).2.lower hl⟩, hRX.apart⟩
end Go.Proofs.Ytmhdijklindipaa
