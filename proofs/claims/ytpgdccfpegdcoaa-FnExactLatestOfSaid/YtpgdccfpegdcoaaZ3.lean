/- Texts of this proof, one behind the other: RR, NAO, N9Q, N9R, NAP, NAM. -/
import Derived.Test.YtpgdccfpegdcoaaZ4
import Derived.RangeFuncNested
import Derived.RangeFuncCalls
import Derived.RangeFuncLeaves
import Derived.TacticsInMore
import Derived.OrdersIn
import Derived.Deep.RegionHeld3
import Derived.Test.YtpgdccfpegdcoaaZ6
import Derived.RangeFuncFrom
import Derived.ControlIn
import Derived.Deep.RegionLaw
import Derived.Test.YtpgdccfpegdcoaaZ8
import Derived.WalkKit
import Derived.WalkSpells
import Derived.WalkLawsBesides
import Derived.Lib.Hide
import Derived.Test.YtpgdccfpegdcoaaZ7
import Derived.Deep.DeepCutAuto
/- A region that draws its order, in a round of a range over a function: by the walk outside. -/
namespace Go.Proofs.Ytpgdccfpegdcoaa
open Go.RowKit
set_option linter.unusedVariables false

/-- A region that goes on and nothing else. -/
def OnlyN (K : Act → World → Prop) : Exit → Act → World → Prop
  | .normal, a, w => K a w
  | _, _, _ => False
theorem oper_round {l n : Nat} {P : Program} {o : Oper} {a : Act} {w : World} {K K0 : Act → World → Prop} {Q : Exit → Act → World → Prop} (hd : ∀ c, o.op ≠ .defer c) (h : o.wp P a w K (OnlyN K0)) : o.wpIn (Fence.wide.inRound l) n P a w K Q := by
  refine ⟨fun _ _ => trivial, ?_⟩
  rw [show (Fence.wide.inRound l).round = some l from rfl, Oper.semAt_some l _ o hd]
  unfold Oper.wp at h
  generalize (execOp a.eval o).run P w = r at h ⊢
  cases r with
  | ok x w' =>
    cases x with
    | value v => exact h
    | skip => exact h
    | defer d => exact h
    | enter f args =>
      refine ⟨fun h => (by cases h), CallsIn.inRound l (callsIn_wide.2 (Calls.mono h ?_))⟩
      intro e w2 he
      cases e with
      | returned v => exact he
      | panicked c => exact (he : False).elim
      | outgrown =>
        obtain ⟨_, _, hx⟩ := (show LetsOut (OnlyN K0) from he)
        exact (show False from hx).elim
    | row r args =>
      refine ⟨fun h => (by cases h), fun c cs _ => ?_⟩
      obtain ⟨v, w2, hr, hs⟩ := h c cs
      exact ⟨v, w2, hr, stepsIn_wide.2 hs⟩
    | _ => exact (show False from h).elim
  | halt x w' =>
    cases x <;> exact (show False from h).elim

theorem wpOp_round {l n : Nat} {P : Program} {ops : Array Oper} {i : Nat} {a : Act} {w : World} {K K0 : Act → World → Prop} {Q : Exit → Act → World → Prop} (hd : ∀ (i : Nat) (o : Oper), ops[i]? = some o → ∀ c, o.op ≠ .defer c) (h : wpOp P ops (OnlyN K0) i K a w) : wpOpIn (Fence.wide.inRound l) n P ops Q i K a w := by
  unfold wpOp at h
  unfold wpOpIn
  cases ho : ops[i]? with
  | none => rw [ho] at h; exact h
  | some o =>
    rw [ho] at h
    simp only at h ⊢
    split
    · rename_i hw
      rw [if_pos hw] at h
      rcases h with h | ⟨_, h⟩
      · exact oper_round (hd i o ho) h
      · obtain ⟨_, _, hx⟩ := (show LetsOut (OnlyN K0) from h)
        exact (show False from hx).elim
    · rename_i hw
      rw [if_neg hw] at h
      exact ⟨fun _ _ => trivial, h⟩

theorem wpAny_round {l n : Nat} {P : Program} {ops : Array Oper} {md : Region.Mode} {K0 : Act → World → Prop} {Q : Exit → Act → World → Prop} (hd : ∀ (i : Nat) (o : Oper), ops[i]? = some o → ∀ c, o.op ≠ .defer c) (hQ : ∀ a w, K0 a w → Q .normal a w) :
    ∀ (fuel : Nat) (listed : Array Bool) (a : Act) (w : World), wpAny P md ops (OnlyN K0) fuel listed a w → wpAnyIn (Fence.wide.inRound l) n P md ops Q fuel listed a w := by
  intro fuel
  induction fuel with
  | zero => intro listed a w h; exact ⟨h.1, hQ _ _ h.2⟩
  | succ fuel ih =>
    intro listed a w h
    refine ⟨fun hr => hQ _ _ (h.1 hr), fun i hi => ?_⟩
    exact wpOpIn_mono (fun a w => ih _ a w) (wpOp_round hd (h.2 i hi))

/-- The region in a round: by the walk that takes the loads first. -/
theorem region_round {l n id : Nat} {P : Program} {ops : Array Oper} {S : World → Prop} {K0 : Act → World → Prop} {Q : Exit → Act → World → Prop} {a : Act} {w : World} (hm : P.follows .mixedOrders = true) (hd : ops.toList.all (fun o => match o.op with | .defer _ => false | _ => true) = true) (hQ : ∀ a w, K0 a w → Q .normal a w) (hS : S w.drew)
    (h : S w.drew → wpAnyH P .any ops (OnlyN K0) S ops.size (Array.replicate ops.size false) a w.drew) : (Code.region id ops true).wpIn (Fence.wide.inRound l) n P Q a w := by
  have hd' : ∀ (i : Nat) (o : Oper), ops[i]? = some o → ∀ c, o.op ≠ .defer c := by
    intro i o ho c hc
    have hm := (List.all_eq_true.1 hd) o (by rw [← Array.getElem?_toList] at ho; exact List.mem_of_getElem? ho)
    simp [hc] at hm
  refine wpIn_region_any hm (wpAny_round hd' hQ _ _ _ _ ?_)
  exact wpAny_of_held _ _ _ _ (h hS)
end Go.Proofs.Ytpgdccfpegdcoaa

/- Chapter 9: heights of the program, plain: as a fold over what comes. -/
namespace Go.Proofs.Ytpgdccfpegdcoaa
open Go.RowKit Go.Shelf
set_option linter.unusedVariables false

def hgY (cs : List In) (xs : List Int) (k : Nat) : List Int := xs.set k (max (xs.getD k 0) (cstA cs k))
def hgT (cs : List In) (xs : List Int) (k t : Nat) : List Int := ((ndL cs k cs.length).take t).foldl (hstep (max (xs.getD k 0) (cstA cs k))) (hgY cs xs k)
def hgS (cs : List In) (xs : List Int) (k : Nat) : List Int := hgT cs xs k (ndL cs k cs.length).length
def hgP (cs : List In) (pre : List (BwI cs)) : List Int := (pre.map fun x => x.1.1).foldl (hgS cs) (List.replicate cs.length 0)
theorem hgP_snoc {cs : List In} (pre : List (BwI cs)) (x : BwI cs) : hgP cs (pre ++ [x]) = hgS cs (hgP cs pre) x.1.1 := by
  unfold hgP; rw [List.map_append, List.foldl_append]; rfl
theorem hgT_len (cs : List In) (xs : List Int) (k t : Nat) : (hgT cs xs k t).length = xs.length := by unfold hgT hgY; rw [hfold_len, List.length_set]
theorem hgT_zero (cs : List In) (xs : List Int) (k : Nat) : hgT cs xs k 0 = hgY cs xs k := rfl
theorem hgT_succ {cs : List In} (xs : List Int) {k t : Nat} (h : t < (ndL cs k cs.length).length) : hgT cs xs k (t + 1) = hstep (max (xs.getD k 0) (cstA cs k)) (hgT cs xs k t) (ndL cs k cs.length)[t] := by
  unfold hgT; rw [List.take_succ_eq_append_getElem h, List.foldl_append]; rfl
theorem hgT_own {cs : List In} {xs : List Int} {k : Nat} (t : Nat) (hk : k < xs.length) : (hgT cs xs k t).getD k 0 = max (xs.getD k 0) (cstA cs k) := by
  unfold hgT
  rw [hfold_own _ k _ _ fun d hd => by
    obtain ⟨q, h1, _, _, rfl⟩ := mem_ndL (List.mem_of_mem_take hd)
    simpa using h1]
  unfold hgY
  rw [List.getD_eq_getElem?_getD, List.getElem?_set_self hk]; rfl
theorem hgP_len {cs : List In} (pre : List (BwI cs)) : (hgP cs pre).length = cs.length := by
  unfold hgP
  have : ∀ (l : List Nat) (xs : List Int), (l.foldl (hgS cs) xs).length = xs.length := by
    intro l
    induction l with
    | nil => intro xs; rfl
    | cons k l ih => intro xs; rw [List.foldl_cons, ih]; unfold hgS; rw [hgT_len]
  rw [this]; simp
theorem hfold_bd {v b : Int} (hv : 0 ≤ v ∧ v + 4 ≤ b) : ∀ (ns : List (Int × Int)) (xs : List Int), (∀ d ∈ ns, 0 ≤ d.2 ∧ d.2 ≤ 4) → (∀ x ∈ xs, 0 ≤ x ∧ x ≤ b) → ∀ x ∈ ns.foldl (hstep v) xs, 0 ≤ x ∧ x ≤ b
  | [], xs, _, h => h
  | d :: ns, xs, hd, h => by
    refine hfold_bd hv ns (hstep v xs d) (fun e he => hd e (by simp [he])) fun x hx => ?_
    have h1 := hd d (by simp)
    unfold hstep at hx
    rcases List.mem_or_eq_of_mem_set hx with hx | rfl
    · exact h x hx
    · have h2 : 0 ≤ xs.getD d.1.toNat 0 ∧ xs.getD d.1.toNat 0 ≤ b := by
        rw [List.getD_eq_getElem?_getD]
        cases hk : xs[d.1.toNat]? with
        | none => simp; omega
        | some x => exact h x (List.mem_of_getElem? hk)
      omega
theorem hgS_bd {cs : List In} {xs : List Int} {b : Int} (k : Nat) (hb : 4 ≤ b) (h : ∀ x ∈ xs, 0 ≤ x ∧ x ≤ b) : ∀ x ∈ hgS cs xs k, 0 ≤ x ∧ x ≤ b + 4 := by
  have h2 : 0 ≤ xs.getD k 0 ∧ xs.getD k 0 ≤ b := by
    rw [List.getD_eq_getElem?_getD]
    cases hk : xs[k]? with
    | none => simp; omega
    | some x => exact h x (List.mem_of_getElem? hk)
  have h3 := cstA_bd cs k
  unfold hgS hgT
  rw [List.take_length]
  refine hfold_bd (by omega) _ _ (fun d hd => ?_) fun x hx => ?_
  · obtain ⟨q, _, _, h4, rfl⟩ := mem_ndL hd
    exact ⟨h4, (dT_bd cs q k).2⟩
  · unfold hgY at hx
    rcases List.mem_or_eq_of_mem_set hx with hx | rfl
    · have := h x hx; omega
    · omega
theorem hgP_bd {cs : List In} (pre : List (BwI cs)) : ∀ x ∈ hgP cs pre, 0 ≤ x ∧ x ≤ 4 + 4 * (pre.length : Int) := by
  unfold hgP
  have : ∀ (l : List Nat) (xs : List Int) (b : Int), 4 ≤ b → (∀ x ∈ xs, 0 ≤ x ∧ x ≤ b) → ∀ x ∈ l.foldl (hgS cs) xs, 0 ≤ x ∧ x ≤ b + 4 * (l.length : Int) := by
    intro l
    induction l with
    | nil => intro xs b _ h x hx; have := h x hx; simp; omega
    | cons k l ih =>
      intro xs b hb h x hx
      rw [List.foldl_cons] at hx
      have := ih (hgS cs xs k) (b + 4) (by omega) (hgS_bd k hb h) x hx
      rw [List.length_cons]
      omega
  have h2 := this (pre.map fun x => x.1.1) (List.replicate cs.length 0) 4 (by omega) (fun x hx => by have := (List.mem_replicate.1 hx).2; omega)
  rw [List.length_map] at h2
  exact h2
theorem hgS_eq {cs : List In} {i : Nat} (hi : i < cs.length) : hgS cs (hp cs (i + 1)) i = hp cs i := by
  have h : (hp cs (i + 1)).getD i 0 = pc cs i (i + 1) := by unfold hp; rw [mapR_at _ _ hi, if_neg (by omega)]
  rw [← hpr_end hi]
  unfold hgS hgT hgY hpr hps
  rw [h, pc_own hi]
theorem hgP_at {cs : List In} : ∀ m, m ≤ cs.length → hgP cs ((bL cs).take m) = hp cs (cs.length - m)
  | 0, _ => by rw [Nat.sub_zero, hp_top]; rfl
  | m + 1, h => by
    have ih := hgP_at (cs := cs) m (by omega)
    have hr : cs.length - (m + 1) < cs.length := by omega
    have e : (bL cs).take (m + 1) = (bL cs).take m ++ [⟨(cs.length - (m + 1), cs[cs.length - (m + 1)]), hr, List.getElem?_eq_getElem hr⟩] := by
      have := bL_succ (es := cs) (r := cs.length - (m + 1)) hr
      rw [show cs.length - (cs.length - (m + 1) + 1) = m by omega] at this
      exact this
    rw [e, hgP_snoc, ih]
    have := hgS_eq hr
    rw [show cs.length - (m + 1) + 1 = cs.length - m by omega] at this
    exact this
theorem hgP_all (cs : List In) : hgP cs ((bL cs).take cs.length) = hL cs := by
  rw [hgP_at cs.length (Nat.le_refl _), Nat.sub_self, hp_bot]

theorem cb_not {w : World} {row : Option Nat} {g : Nat} {t : TypeId} {cur : List Value} (h : CB t w g cur) (hr : ∀ r, row = some r → ∃ o : Obj, w.heap[r]? = some o ∧ o.isCells = false) : row ≠ some g := by
  intro e
  obtain ⟨o, ho, hc⟩ := hr g e
  rw [show w.heap[g]? = some (.cells cur.toArray t (0, 0)) from h] at ho; injection ho with ho; subst ho; cases hc
theorem keeps_cb {n Bs g k : Nat} {t t' : TypeId} {W : World} {cur : List Value} {v : Value} (hi : CB t' W g cur) (hn : n ≤ g) (hB : g ≠ Bs) : KeepsOthers W (W.setCell ⟨g, k, none⟩ v) ∧ KpB n Bs t W (W.setCell ⟨g, k, none⟩ v) :=
  ⟨KeepsOthers.setCell _ _ _, (Below.refl n W).setCell (p := ⟨g, k, none⟩) hn v, fun u h => h.other k v hB⟩
theorem keeps_below9 {n Bs : Nat} {t : TypeId} {W W' : World} (hb : Below W.heap.size W W') (hn : n ≤ W.heap.size) : KeepsOthers W W' ∧ KpB n Bs t W W' :=
  ⟨⟨hb.size, fun k o hk _ => (hb.block k (Array.getElem?_eq_some_iff.1 hk).1).trans hk⟩, hb.mono hn, fun v h => h.next hb⟩
theorem keeps_drew9 {n Bs : Nat} {t : TypeId} (W : World) : KeepsOthers W W.drew ∧ KpB n Bs t W W.drew := ⟨⟨Nat.le_refl _, fun _ _ h _ => h⟩, (Below.refl _ W).drew, fun _ h => h⟩
theorem keeps_t9 {n Bs : Nat} {t : TypeId} {A B C : World} (h1 : KeepsOthers A B ∧ KpB n Bs t A B) (h2 : KeepsOthers B C ∧ KpB n Bs t B C) : KeepsOthers A C ∧ KpB n Bs t A C := ⟨h1.1.trans h2.1, h1.2.t h2.2⟩
/-- What lies in the boxes of heights. -/
structure HG (w0 W : World) (p1 p2 p3 : Nat) (va vb : Value) (n : Nat) (xs : List Int) : Prop where
  h1 : w0.heap.size ≤ p1
  h12 : p1 < p2
  h23 : p2 < p3
  pb : CB 77 W p1 [va, vb]
  b3 : CB 38 W p3 [.slice (some ⟨p2, 0, none⟩) n n]
  ib : CB 3 W p2 (xs.map (Value.int .i64))
  be : Below w0.heap.size w0 W
theorem HG.below {w0 W W' : World} {p1 p2 p3 n : Nat} {va vb : Value} {xs : List Int} (h : HG w0 W p1 p2 p3 va vb n xs) (hb : Below W.heap.size W W') : HG w0 W' p1 p2 p3 va vb n xs :=
  ⟨h.h1, h.h12, h.h23, CB.below h.pb hb h.pb.lt, CB.below h.b3 hb h.b3.lt, CB.below h.ib hb h.ib.lt, h.be.trans (hb.mono h.be.size)⟩
theorem HG.kept {w0 W W' : World} {p1 p2 p3 n : Nat} {va vb : Value} {xs : List Int} {row : Option Nat} (h : HG w0 W p1 p2 p3 va vb n xs) (hg : W.grownBy W' row) (hr : ∀ r, row = some r → w0.heap.size ≤ r ∧ ∃ o : Obj, W.heap[r]? = some o ∧ o.isCells = false) : HG w0 W' p1 p2 p3 va vb n xs := by
  have hr' : ∀ r, row = some r → ∃ o : Obj, W.heap[r]? = some o ∧ o.isCells = false := fun r e => (hr r e).2
  exact ⟨h.h1, h.h12, h.h23, (hg.block p1 h.pb.lt (fun e => cb_not h.pb hr' e.symm)).trans h.pb, (hg.block p3 h.b3.lt (fun e => cb_not h.b3 hr' e.symm)).trans h.b3, (hg.block p2 h.ib.lt (fun e => cb_not h.ib hr' e.symm)).trans h.ib, h.be.grown hg h.be.size (fun k e => (hr k e).1)⟩
theorem HG.put {w0 W : World} {p1 p2 p3 n : Nat} {va vb : Value} {xs : List Int} (h : HG w0 W p1 p2 p3 va vb n xs) (k : Nat) (x : Int) : HG w0 (W.setCell ⟨p2, k, none⟩ (.int .i64 x)) p1 p2 p3 va vb n (xs.set k x) := by
  have h1 := h.h1; have h12 := h.h12; have h23 := h.h23
  have hib := h.ib.set k (.int .i64 x)
  rw [← List.map_set] at hib
  exact ⟨h1, h12, h23, (Below.heap_setCell W ⟨p2, k, none⟩ _ p1 (by show p1 ≠ p2; omega)).trans h.pb, (Below.heap_setCell W ⟨p2, k, none⟩ _ p3 (by show p3 ≠ p2; omega)).trans h.b3, hib, h.be.setCell (p := ⟨p2, k, none⟩) (by show w0.heap.size ≤ p2; omega) _⟩
theorem HG.drew {w0 W : World} {p1 p2 p3 n : Nat} {va vb : Value} {xs : List Int} (h : HG w0 W p1 p2 p3 va vb n xs) : HG w0 W.drew p1 p2 p3 va vb n xs := ⟨h.h1, h.h12, h.h23, h.pb, h.b3, h.ib, h.be.drew⟩
theorem HG.at {w0 W : World} {p1 p2 p3 n : Nat} {va vb : Value} {xs : List Int} (h : HG w0 W p1 p2 p3 va vb n xs) (k : Nat) (hk : k < xs.length) : W.cell? ⟨p2, k, none⟩ = some (.int .i64 (xs.getD k 0)) ∧ W.frozen? ⟨p2, k, none⟩ = false := by
  refine ⟨?_, CB.frozen h.ib k⟩
  rw [CB.cell h.ib k, List.getElem?_map, List.getElem?_eq_getElem hk, List.getD_eq_getElem?_getD, List.getElem?_eq_getElem hk]; rfl
end Go.Proofs.Ytpgdccfpegdcoaa

/- Chapter 9: sets of indices in a word. -/
namespace Go.Proofs.Ytpgdccfpegdcoaa
open Go.RowKit
set_option linter.unusedVariables false
set_option maxRecDepth 100000

theorem u64_nat {n : Nat} (h : n < 18446744073709551616) : IntKind.u64.wrap (n : Int) = (n : Int) := by
  simp [IntKind.wrap, IntKind.bits, IntKind.signed]
  omega
theorem u_and {a b : Nat} (ha : a < 18446744073709551616) (hb : b < 18446744073709551616) : bits .and .u64 (a : Int) (b : Int) = ((a &&& b : Nat) : Int) := by
  show IntKind.u64.wrap (((BitVec.ofInt 64 (a : Int) &&& BitVec.ofInt 64 (b : Int)).toNat : Nat) : Int) = _
  rw [BitVec.toNat_and, BitVec.ofInt_natCast, BitVec.ofInt_natCast, BitVec.toNat_ofNat, BitVec.toNat_ofNat, Nat.mod_eq_of_lt ha, Nat.mod_eq_of_lt hb]
  exact u64_nat (Nat.lt_of_le_of_lt Nat.and_le_left ha)
theorem u_or {a b : Nat} (ha : a < 18446744073709551616) (hb : b < 18446744073709551616) : bits .or .u64 (a : Int) (b : Int) = ((a ||| b : Nat) : Int) := by
  show IntKind.u64.wrap (((BitVec.ofInt 64 (a : Int) ||| BitVec.ofInt 64 (b : Int)).toNat : Nat) : Int) = _
  rw [BitVec.toNat_or, BitVec.ofInt_natCast, BitVec.ofInt_natCast, BitVec.toNat_ofNat, BitVec.toNat_ofNat, Nat.mod_eq_of_lt ha, Nat.mod_eq_of_lt hb]
  exact u64_nat (Nat.or_lt_two_pow (n := 64) ha hb)
theorem set_lt {m i : Nat} (hm : m < 1048576) (hi : i < 20) : (m ||| (1 <<< i)) < 1048576 :=
  Nat.or_lt_two_pow (n := 20) hm (by rw [Nat.one_shiftLeft]; exact Nat.pow_lt_pow_right (by omega) hi)
theorem has_eq (m i : Nat) (hm : m < 1048576) : (bits .and .u64 ((m : Int) / 2 ^ i) 1 == 1) = m.testBit i := by
  have e : ((m : Int) / 2 ^ i) = ((m / 2 ^ i : Nat) : Int) := by rw [Int.natCast_ediv, Int.natCast_pow]; rfl
  have h1 : m / 2 ^ i < 18446744073709551616 := Nat.lt_of_le_of_lt (Nat.div_le_self _ _) (by omega)
  have h2 := u_and h1 (show 1 < 18446744073709551616 by omega)
  rw [e, show (1 : Int) = ((1 : Nat) : Int) from rfl, h2, Nat.and_one_is_mod, Nat.testBit_eq_decide_div_mod_eq]
  rw [Bool.eq_iff_iff]
  simp
  omega
theorem with_eq (m i : Nat) (hm : m < 1048576) (hi : i < 20) : bits .or .u64 (m : Int) (IntKind.u64.wrap (2 ^ i)) = ((m ||| (1 <<< i) : Nat) : Int) := by
  have h0 : 2 ^ i < 1048576 := Nat.pow_lt_pow_right (m := i) (n := 20) (a := 2) (by omega) hi
  have e : ((2 : Int) ^ i) = ((2 ^ i : Nat) : Int) := by rw [Int.natCast_pow]; rfl
  rw [e, u64_nat (by omega), u_or (by omega) (by omega), Nat.one_shiftLeft]
theorem has_any (m i : Nat) (w : World) (hm : m < 1048576) (hi : i < 20) :
    Calls Try.prog 140 #[.int .u64 m, .int .i64 i] w fun e w' => e = .returned (.bool (m.testBit i)) ∧ w = w' := by
  have h0 : (0 : Int) ≤ (i : Int) := by omega
  have h1 : (i : Int) < 64 := by omega
  have hE := Lib.hid (has_eq m i hm)
  go_enter Try.func140, Try.ntmps140
  go_wp2
  go_ret
  exact ⟨ret_bool hE.out, rfl⟩
theorem with_any (m i : Nat) (w : World) (hm : m < 1048576) (hi : i < 20) :
    Calls Try.prog 91 #[.int .u64 m, .int .i64 i] w fun e w' => e = .returned (.int .u64 ((m ||| (1 <<< i) : Nat) : Int)) ∧ w = w' := by
  have h0 : (0 : Int) ≤ (i : Int) := by omega
  have h1 : (i : Int) < 64 := by omega
  have hE := Lib.hid (with_eq m i hm hi)
  go_enter Try.func91, Try.ntmps91
  go_wp2
  go_ret
  exact ⟨by rw [← hE.out]; rfl, rfl⟩
end Go.Proofs.Ytpgdccfpegdcoaa

/- Chapter 9: orders, plain; mayCome of the program. -/
namespace Go.Proofs.Ytpgdccfpegdcoaa
open Go.RowKit
set_option linter.unusedVariables false
set_option maxRecDepth 100000

theorem hasI_cons (x : Int) (xs : List Int) (n : Int) : hasI (x :: xs) n = ((x == n) || hasI xs n) := rfl
def setOf (xs : List Int) : Nat := xs.foldl (fun m x => m ||| (1 <<< x.toNat)) 0
theorem setOf_snoc {xs : List Int} {k : Nat} (h : k < xs.length) : setOf (xs.take (k + 1)) = setOf (xs.take k) ||| (1 <<< xs[k].toNat) := by
  unfold setOf; rw [List.take_succ_eq_append_getElem h, List.foldl_append]; rfl
theorem setFrom_lt : ∀ {xs : List Int} {m : Nat}, m < 1048576 → (∀ x ∈ xs, 0 ≤ x ∧ x < 20) → xs.foldl (fun m x => m ||| (1 <<< x.toNat)) m < 1048576
  | [], m, hm, _ => hm
  | x :: xs, m, hm, h => setFrom_lt (xs := xs) (set_lt hm (by have := h x (by simp); omega)) fun y hy => h y (by simp [hy])
theorem setOf_lt {xs : List Int} (h : ∀ x ∈ xs, 0 ≤ x ∧ x < 20) : setOf xs < 1048576 := setFrom_lt (by omega) h
theorem setFrom_bit (i : Nat) : ∀ {xs : List Int} {m : Nat}, (∀ x ∈ xs, 0 ≤ x ∧ x < 20) → (xs.foldl (fun m x => m ||| (1 <<< x.toNat)) m).testBit i = (m.testBit i || hasI xs i)
  | [], m, _ => by simp [hasI]
  | x :: xs, m, h => by
    have hx := h x (by simp)
    show (xs.foldl (fun m x => m ||| (1 <<< x.toNat)) (m ||| (1 <<< x.toNat))).testBit i = _
    rw [setFrom_bit i (xs := xs) fun y hy => h y (by simp [hy]), Nat.testBit_or, Nat.one_shiftLeft, Nat.testBit_two_pow, hasI_cons, Bool.or_assoc]
    have : decide (x.toNat = i) = (x == (i : Int)) := by
      rw [Bool.eq_iff_iff]; simp; omega
    rw [this]
theorem setOf_bit {xs : List Int} (i : Nat) (h : ∀ x ∈ xs, 0 ≤ x ∧ x < 20) : (setOf xs).testBit i = hasI xs i := by
  unfold setOf; rw [setFrom_bit i h]; simp

/-- Whether the needs of j among the first k instructions have come. -/
def ndIn (cs : List In) (xs : List Int) (j k : Nat) : Bool := (ndL cs j k).all fun d => hasI xs d.1
theorem ndIn_yes {cs : List In} {xs : List Int} {j k : Nat} (h : 0 ≤ dT cs k j) : ndIn cs xs j (k + 1) = (ndIn cs xs j k && hasI xs k) := by
  unfold ndIn; rw [ndL_yes h, List.all_append]; simp
theorem ndIn_no {cs : List In} {xs : List Int} {j k : Nat} (h : ¬ 0 ≤ dT cs k j) : ndIn cs xs j (k + 1) = ndIn cs xs j k := by
  unfold ndIn; rw [ndL_no h]
theorem ndIn_false {cs : List In} {xs : List Int} {j k : Nat} (h : ndIn cs xs j k = false) : ∀ {n : Nat}, k ≤ n → ndIn cs xs j n = false
  | 0, hn => by obtain rfl : k = 0 := by omega
                exact h
  | n + 1, hn => by
    rcases Nat.lt_or_ge n k with h1 | h1
    · obtain rfl : k = n + 1 := by omega
      exact h
    · have ih := ndIn_false h h1
      by_cases hd : 0 ≤ dT cs n j
      · rw [ndIn_yes hd, ih]; rfl
      · rw [ndIn_no hd, ih]
/-- Whether an index may come next. -/
def mayB (cs : List In) (xs : List Int) (j : Nat) : Bool := ndIn cs xs j cs.length && !hasI xs j
def stpB (cs : List In) (xs : List Int) (j : Int) : Bool := inR j 0 ((cs.length : Int) - 1) && mayB cs xs j.toNat
def ordP (cs : List In) (order : List Int) (k : Nat) : Bool := (List.range k).all fun q => stpB cs (order.take q) (order.getD q 0)
theorem ordP_succ (cs : List In) (order : List Int) (k : Nat) : ordP cs order (k + 1) = (ordP cs order k && stpB cs (order.take k) (order.getD k 0)) := by
  unfold ordP; rw [List.range_succ, List.all_append]; simp
theorem ordP_false {cs : List In} {order : List Int} {k : Nat} (h : ordP cs order k = false) : ∀ {n : Nat}, k ≤ n → ordP cs order n = false
  | 0, hn => by obtain rfl : k = 0 := by omega
                exact h
  | n + 1, hn => by
    rcases Nat.lt_or_ge n k with h1 | h1
    · obtain rfl : k = n + 1 := by omega
      exact h
    · rw [ordP_succ, ordP_false h h1]; rfl
theorem ordP_in {cs : List In} {order : List Int} {k : Nat} (hk : k ≤ order.length) (h : ordP cs order k = true) : ∀ x ∈ order.take k, 0 ≤ x ∧ x < cs.length := by
  intro x hx
  obtain ⟨q, hq, rfl⟩ := List.mem_take_iff_getElem.1 hx
  unfold ordP at h
  rw [List.all_eq_true] at h
  have h1 := h q (by simp; omega)
  unfold stpB at h1
  rw [Bool.and_eq_true, inR_iff, List.getD_eq_getElem?_getD, List.getElem?_eq_getElem (by omega), Option.getD_some] at h1
  omega
def ordB (cs : List In) (order : List Int) : Bool := (order.length == cs.length) && ordP cs order order.length
def isoB (cs : List In) (order : List Int) : Bool := orGood cs && ordB cs order

set_option maxHeartbeats 4000000 in
theorem mayCome_any (A : Option Addr) (m c : Nat) (L B : Nat) (An : Option Addr) (cn : Nat) (cs : List In) (i : Nat) (xs : List Int) (w : World) (h20 : cs.length ≤ 20) (hi : i < cs.length) (hxs : ∀ x ∈ xs, 0 ≤ x ∧ x < 20)
    (hn : PN w L B An (nds cs)) (hB : B ≤ w.heap.size) :
    Calls Try.prog 90 #[.agg #[.slice A m c, .slice An cs.length cn], .int .i64 i, .int .u64 (setOf xs)] w fun e w' => e = .returned (.bool (mayB cs xs i)) ∧ Below w.heap.size w w' := by
  have hi2 : i < (nds cs).length := by rw [nds_len]; exact hi
  obtain ⟨b, rfl, ⟨_, hbB⟩, hcells⟩ := hn (by omega)
  obtain ⟨Ai, ci, r0, hrs⟩ := hcells i hi2
  rw [nds_at] at r0 hrs
  have hbx := (Below.refl w.heap.size w).alloc (Nat.le_refl _) (.cells #[.slice A m c, .slice (some ⟨b, 0, none⟩) cs.length cn] 77)
  have hP := PB.new w (.slice A m c) (.slice (some ⟨b, 0, none⟩) cs.length cn)
  have r1 := (hbx.cell (p := ⟨b, i, none⟩) (show b < _ by omega)).trans r0
  have hRS := Lib.hid fun (W : World) (hW : Below w.heap.size w W) => hrs.below hW hB
  have hii : (i : Int) < (cs.length : Int) := by omega
  have hi0 : (0 : Int) ≤ (i : Int) := by omega
  have hBx := Lib.hid hbx
  have hM : Hid (mayB cs xs i = ((ndL cs i cs.length).all (fun d => hasI xs d.1) && !hasI xs i)) := rfl
  have hLt := Lib.hid (setOf_lt hxs)
  have hBt := Lib.hid fun (q : Nat) => setOf_bit q hxs
  have hIn := Lib.hid fun (d : Int × Int) (h : d ∈ ndL cs i cs.length) => (show 0 ≤ d.1 ∧ d.1 < 20 from by
    obtain ⟨q, h1, h2, _, rfl⟩ := mem_ndL h
    simp only
    omega)
  have hHi := Lib.hid (has_any (setOf xs) i)
  have hHq := Lib.hid fun (q : Nat) => has_any (setOf xs) q
  have hln := ndL_len cs i cs.length
  clear hcells hrs hn hB hbx hxs hi2
  obtain ⟨q0, q1⟩ := And.intro hP.c0 hP.c1
  clear hP
  generalize mayB cs xs i = R at *
  generalize ndL cs i cs.length = ns at *
  generalize setOf xs = s at *
  have hHi := Lib.hid fun (W : World) => hHi.out W hLt.out (by omega)
  have hEi := hBt.out i
  rw [hEi] at hHi
  clear hEi
  go_enter Try.func90, Try.ntmps90
  go_wp2_with (fail)
  clear q0 q1 r1
  go_loopw [15] (fun q wr => ∃ k : Nat, k ≤ ns.length ∧ q = .int .i64 k ∧ (ns.take k).all (fun d => hasI xs d.1) = true ∧ Below w.heap.size w wr) (fun q _ => ns.length - (intOf q).toNat)
  case atStart => exact ⟨0, Nat.zero_le _, rfl, rfl, hBx.out⟩
  case round =>
    obtain ⟨k, hk, rfl, hal, hbel⟩ := hrel
    have hAl := Lib.hid hal
    have hBL := Lib.hid hbel
    clear hbel hal
    by_cases hlt : k < ns.length
    · obtain ⟨rb, ro, rfl, hrb, c0, c1⟩ := nd_cells (hRS.out wr hBL.out) hlt
      obtain ⟨h1, h2⟩ := hIn.out _ (List.getElem_mem hlt)
      have hSn : Hid ((ns.take (k + 1)).all (fun d => hasI xs d.1) = ((ns.take k).all (fun d => hasI xs d.1) && hasI xs ns[k].1)) := by
        rw [Hid, List.take_succ_eq_append_getElem hlt, List.all_append]; simp
      have hFa : Hid (hasI xs ns[k].1 = false → ns.all (fun d => hasI xs d.1) = false) := fun h => by
        rw [List.all_eq_false]; exact ⟨_, List.getElem_mem hlt, by rw [h]; simp⟩
      have hki : (k : Int) < (ns.length : Int) := by omega
      have hBn := Lib.hid (hBL.out.alloc hBL.out.size (.cells #[.int .i64 ns[k].1, .int .i64 ns[k].2] 117))
      generalize ns[k].2 = dd at *
      generalize ns[k].1 = dk at *
      obtain ⟨t, rfl⟩ := Int.eq_ofNat_of_zero_le h1
      have hHt := hHq.out t (wr.alloc (.cells #[.int .i64 t, .int .i64 dd] 117)) hLt.out (by omega)
      rw [hBt.out t] at hHt
      have hHt := Lib.hid hHt
      generalize hasI xs (t : Int) = hb at *
      cases hb
      · have hF := Lib.hid (hFa.out rfl)
        clear hSn hFa
        go_wp2_with (fail)
        refine hHt.out.mono ?_
        rintro e w3 ⟨rfl, rfl⟩
        go_wp2
        go_ret
        exact ⟨by rw [hM.out, hF.out]; rfl, hBn.out⟩
      · have hS2 : Hid ((ns.take (k + 1)).all (fun d => hasI xs d.1) = true) := by rw [Hid, hSn.out, hAl.out]; rfl
        clear hSn hFa
        go_wp2_with (fail)
        refine hHt.out.mono ?_
        rintro e w3 ⟨rfl, rfl⟩
        go_wp2
        go_roundw
        case rel => exact ⟨k + 1, by omega, by go_num, hS2.out, hBn.out⟩
        case measure => simp [intOf]; omega
    · obtain rfl : k = ns.length := by omega
      rw [List.take_length] at hAl
      go_wp2_with (fail)
      refine (hHi.out _).mono ?_
      rintro e w3 ⟨rfl, rfl⟩
      go_wp2
      go_ret
      exact ⟨by rw [hM.out, hAl.out]; rfl, hBL.out⟩
end Go.Proofs.Ytpgdccfpegdcoaa

/- Chapter 9: heights of the program. -/
namespace Go.Proofs.Ytpgdccfpegdcoaa
open Go.RowKit Go.Shelf
set_option linter.unusedVariables false
set_option maxRecDepth 100000
attribute [local go_sem] Oper.semAt_some

set_option maxHeartbeats 8000000 in
theorem heights_any (L B : Nat) (A : Option Addr) (c : Nat) (cs : List In) (L1 B1 : Nat) (An : Option Addr) (cn : Nat) (w : World) (h20 : cs.length ≤ 20) (hes : RS In.enc 5 w L B A cs) (hB : B ≤ w.heap.size) (hpn : PN w L1 B1 An (nds cs)) (hB1 : B1 ≤ w.heap.size) :
    Calls Try.prog 142 #[.agg #[.slice A cs.length c, .slice An cs.length cn]] w (FreshI w (hL cs)) := by
  have hE := Lib.hid fun (W : World) (hW : Below w.heap.size w W) => hes.below hW hB
  have hPN := Lib.hid fun (W : World) (hW : Below w.heap.size w W) => hpn.below hW hB1
  have hBB := Lib.hid hB
  have hBN := Lib.hid hB1
  have hl : cs.length ≤ 1048576 := by omega
  have hmk := run_make_ints cs.length (by omega)
  clear hes hpn hB hB1
  refine (callsIn_wide (n := 6)).1 ?_
  refine callsIn_of_wp_marks Try.func142 rfl trivial ?_ rfl
  simp only [Try.ntmps142, List.size_toArray, List.length_cons, List.length_nil, Nat.reduceAdd, Nat.reduceSub, Array.replicate_succ, Array.replicate_zero, List.push_toArray, List.append_toArray, List.nil_append, List.cons_append]
  gi_wp2
  obtain ⟨W5, hW5⟩ : ∃ W5, W5 = ((w.alloc (.cells #[.slice A cs.length c, .slice An cs.length cn] 77)).alloc (.cells (intCells (zeros cs.length)) 3)).alloc (.cells #[.slice (some ⟨w.heap.size + 1, 0, none⟩) cs.length cs.length] 38) := ⟨_, rfl⟩
  have z1 := World.size_alloc w (.cells #[.slice A cs.length c, .slice An cs.length cn] 77)
  have z2 := World.size_alloc (w.alloc (.cells #[.slice A cs.length c, .slice An cs.length cn] 77)) (.cells (intCells (zeros cs.length)) 3)
  have D0 : HG w W5 w.heap.size (w.heap.size + 1) (w.heap.size + 1 + 1) (.slice A cs.length c) (.slice An cs.length cn) cs.length (zeros cs.length) := by
    have a1 := (Below.refl w.heap.size w).alloc (Nat.le_refl _) (.cells #[.slice A cs.length c, .slice An cs.length cn] 77)
    have a2 := a1.alloc a1.size (.cells (intCells (zeros cs.length)) 3)
    have a3 := a2.alloc a2.size (.cells #[.slice (some ⟨w.heap.size + 1, 0, none⟩) cs.length cs.length] 38)
    rw [hW5]
    refine ⟨Nat.le_refl _, by omega, by omega, ?_, ?_, ?_, a3⟩
    · have h := PB.new w (.slice A cs.length c) (.slice An cs.length cn)
      have h2 := CB.below h ((Below.refl _ _).alloc (Nat.le_refl _) (.cells (intCells (zeros cs.length)) 3)) (CB.lt h)
      exact CB.below h2 ((Below.refl _ _).alloc (Nat.le_refl _) _) (CB.lt h2)
    · have h : CB 38 (((w.alloc (.cells #[.slice A cs.length c, .slice An cs.length cn] 77)).alloc (.cells (intCells (zeros cs.length)) 3)).alloc (.cells #[.slice (some ⟨w.heap.size + 1, 0, none⟩) cs.length cs.length] 38)) _ [.slice (some ⟨w.heap.size + 1, 0, none⟩) cs.length cs.length] := heap_alloc_new _ _
      rw [z2, z1] at h; exact h
    · have h : CB 3 ((w.alloc (.cells #[.slice A cs.length c, .slice An cs.length cn] 77)).alloc (.cells (intCells (zeros cs.length)) 3)) _ ((zeros cs.length).map (Value.int .i64)) := heap_alloc_new _ _
      rw [z1] at h
      exact CB.below h ((Below.refl _ _).alloc (Nat.le_refl _) _) (CB.lt h)
  rw [← hW5]
  have Z5 := Lib.hid (show W5.heap.size = w.heap.size + 1 + 1 + 1 by rw [hW5, World.size_alloc, z2, z1])
  obtain ⟨p1, hp1⟩ : ∃ p1, p1 = w.heap.size := ⟨_, rfl⟩
  have Hp1 := Lib.hid hp1
  rw [← hp1] at D0 Z5 ⊢
  have Hp9 := Lib.hid (Nat.le_of_eq hp1.symm)
  generalize hp2 : p1 + 1 = p2 at *
  generalize hp3 : p2 + 1 = p3 at *
  have Hp2 := Lib.hid hp2
  have Hp3 := Lib.hid hp3
  have D0h := Lib.hid D0
  clear hW5 z1 z2 hp1 hmk D0 hp2 hp3
  gi_wp2
  refine ⟨trivial, (bwI_in Fence.wide 5 trivial rfl A cs.length c W5).mono ?_⟩
  rintro e W9 ⟨rfl, rfl⟩
  have a9 := (Below.refl W5.heap.size W5).alloc (Nat.le_refl _) (.cells #[.slice A cs.length c] 28)
  have L9 := Lib.hid (D0h.out.below a9)
  have TB9 := Lib.hid (BX.new W5 28 (.slice A cs.length c))
  have hes9 := Lib.hid (hE.out _ L9.out.be)
  have Z9 := World.size_alloc W5 (.cells #[.slice A cs.length c] 28)
  obtain ⟨Bs, hBs⟩ : ∃ Bs, Bs = W5.heap.size := ⟨_, rfl⟩
  obtain ⟨W9, hW9⟩ : ∃ W9, W9 = W5.alloc (.cells #[.slice A cs.length c] 28) := ⟨_, rfl⟩
  rw [← hBs, ← hW9]
  rw [← hW9] at L9 hes9 TB9 Z9
  rw [← hBs] at TB9 Z9
  have Zb := Lib.hid (show p3 < Bs by have := Z5.out; have := Hp2.out; have := Hp3.out; omega)
  have Z9h := Lib.hid Z9
  have B9 := Lib.hid L9.out.be
  clear a9 D0h hW9 hBs Z5 Z9
  gi_wp2
  refine wpIn_rangeFunc_ownH rfl (by omega) (gf := 179) (lb := #[.pointer (some ⟨Bs, 0, none⟩)]) rfl trivial (enters_of Try.func179 (by kernel_rfl) rfl)
    (bwI_stops Fence.wide 5 trivial rfl (by omega) Bs w.heap.size L B A c cs hl W9 B9.out.size TB9.out hes9.out hBB.out) KpB.t (KpB.b B9.out.size) (Below.refl _ _) (fun _ => rfl)
    (fun pre W => HG w W p1 p2 p3 (.slice A cs.length c) (.slice An cs.length cn) cs.length (hgP cs pre) ∧ Bs + 1 ≤ W.heap.size)
    (fun _ _ _ => False) ?hI ?hIx ?h0
    (fun x a' W => ∃ Bx, Bs < Bx ∧ XB W Bx x.1.2 ∧ a' = { tmps := #[.agg #[.slice A cs.length c, .slice An cs.length cn], .pointer (some ⟨p1, 0, none⟩), .slice none 0 0, .pointer (some ⟨p3, 0, none⟩), .int .i64 (x.1.1 : Int), .pointer (some ⟨Bx, 0, none⟩), undef, undef, .pointer (some ⟨p1, 0, none⟩), .slice A cs.length c, .int .i64 (cs.length : Int), .slice (some ⟨p2, 0, none⟩) cs.length cs.length, .pointer (some ⟨p1, 0, none⟩), .slice A cs.length c, .func (.func 179) #[] #[.pointer (some ⟨Bs, 0, none⟩)], .int .i64 (x.1.1 : Int), inV x.1.2, undef, undef, undef, undef, undef, undef, undef, undef, undef, undef, undef, undef, undef, undef, undef, undef, undef, undef, undef, undef, undef, undef, undef, undef, undef, undef, undef, undef, undef, undef, undef, undef, undef, undef, undef, undef, undef, undef, undef], defers := [] })
    ?hAx ?assign ?body ?done ?stop
  case hAx =>
    rintro x a' _ X YY row ⟨Bx, h1, h2, h3⟩ hg hr
    refine ⟨Bx, h1, ?_, h3⟩
    have hne : row ≠ some Bx := row_not (show X.heap[Bx]? = some (.cells (In.enc x.1.2).toArray 65 (0, 0)) from h2) (fun r e => (hr r e).2)
    exact (hg.block Bx (CB.lt h2) (fun e => hne e.symm)).trans h2
  case assign =>
    rintro l pre ⟨⟨k, ⟨op, d, a, b, m⟩⟩, hk, hy⟩ W K ⟨hD, hlt⟩ hK
    have ha := (Below.refl W.heap.size W).alloc (Nat.le_refl _) (.cells #[.string op, .int .i64 d, .int .i64 a, .int .i64 b, .int .i64 m] 65)
    have h1 := hK { tmps := #[.agg #[.slice A cs.length c, .slice An cs.length cn], .pointer (some ⟨p1, 0, none⟩), .slice none 0 0, .pointer (some ⟨p3, 0, none⟩), .int .i64 (k : Int), .pointer (some ⟨W.heap.size, 0, none⟩), undef, undef, .pointer (some ⟨p1, 0, none⟩), .slice A cs.length c, .int .i64 (cs.length : Int), .slice (some ⟨p2, 0, none⟩) cs.length cs.length, .pointer (some ⟨p1, 0, none⟩), .slice A cs.length c, .func (.func 179) #[] #[.pointer (some ⟨Bs, 0, none⟩)], .int .i64 (k : Int), inV ⟨op, d, a, b, m⟩, undef, undef, undef, undef, undef, undef, undef, undef, undef, undef, undef, undef, undef, undef, undef, undef, undef, undef, undef, undef, undef, undef, undef, undef, undef, undef, undef, undef, undef, undef, undef, undef, undef, undef, undef, undef, undef, undef, undef], defers := [] } (W.alloc (.cells #[.string op, .int .i64 d, .int .i64 a, .int .i64 b, .int .i64 m] 65)) ((KeepsOthers.alloc _ _).from _) ⟨ha.mono hD.be.size, fun v h => h.next ha⟩ ⟨hD.below ha, Nat.le_trans hlt ha.size⟩ ⟨W.heap.size, hlt, XB.newI9 W ⟨op, d, a, b, m⟩, rfl⟩
    dsimp only [inV] at h1
    have h1h := Lib.hid h1
    clear h1 hK hD
    dsimp only [inV]
    gi_wp2
    exact h1h.out
  case hI =>
    rintro pre W W' row ⟨hD, hlt⟩ hg hr
    exact ⟨hD.kept hg (fun r e => ⟨Nat.le_trans B9.out.size (hr r e).1, (hr r e).2⟩), Nat.le_trans hlt hg.size⟩
  case hIx => rintro cd pre W W' row hF; exact hF.elim
  case h0 => exact ⟨L9.out, by rw [Z9h.out]; exact Nat.le_refl _⟩
  case stop =>
    rintro D cd pre W _ _ hh _
    exact hh.elim
  case body =>
    rintro l pre x a' W hl0 _ ⟨hD, hWB⟩ ⟨Bx, hBx, hX, rfl⟩ hpl
    obtain ⟨⟨k, y⟩, hk, hy⟩ := x
    have hk' : k < cs.length := hk
    have hki : (k : Int) < (cs.length : Int) := by omega
    have hk0 : (0 : Int) ≤ (k : Int) := by omega
    have hsn := Lib.hid (hgP_snoc pre ⟨(k, y), hk, hy⟩)
    have hln := hgP_len pre
    have hbd := Lib.hid (hgP_bd pre)
    have hca : cstA cs k = (fm y.op).c := by
      unfold cstA
      rw [inAt_eq hk', (List.getElem?_eq_some_iff.1 (show cs[k]? = some y from hy)).2]
    have hcb := cstA_bd cs k
    generalize hP' : hgP cs (pre ++ [⟨(k, y), hk, hy⟩]) = P' at *
    have HP := Lib.hid hP'
    clear hP'
    generalize hgP cs pre = xs at *
    dsimp only at *
    have hgd : 0 ≤ xs.getD k 0 ∧ xs.getD k 0 ≤ 84 := by
      rw [List.getD_eq_getElem?_getD]
      cases hkk : xs[k]? with
      | none => simp
      | some x => have := hbd.out x (List.mem_of_getElem? hkk); simp only [Option.getD_some]; omega
    have hT0 := Lib.hid (hgT_zero cs xs k)
    have hTl := Lib.hid (hgT_len cs xs k)
    have hTo := Lib.hid fun (t : Nat) => hgT_own (cs := cs) t (show k < xs.length by rw [hln]; exact hk')
    have hTs := Lib.hid fun (t : Nat) (h : t < (ndL cs k cs.length).length) => hgT_succ xs h
    have hSe : Hid (hgS cs xs k = hgT cs xs k (ndL cs k cs.length).length) := rfl
    have hYe : Hid (hgY cs xs k = xs.set k (max (xs.getD k 0) (cstA cs k))) := rfl
    have hNd := Lib.hid fun (d : Int × Int) (h : d ∈ ndL cs k cs.length) => (show (∃ q : Nat, d.1 = (q : Int) ∧ q < k) ∧ 0 ≤ d.2 ∧ d.2 ≤ 4 from by
      obtain ⟨q, h1, _, h4, rfl⟩ := mem_ndL h
      exact ⟨⟨q, rfl, h1⟩, h4, (dT_bd cs q k).2⟩)
    have hNl := ndL_len cs k cs.length
    obtain ⟨op, d, a, b, m⟩ := y
    dsimp only [inV] at *
    rw [hca] at hYe hTo hTs hcb
    clear hbd hca
    have hD1 := Lib.hid hD.drew
    have hX1 := Lib.hid (show XB W.drew Bx ⟨op, d, a, b, m⟩ from hX)
    have hC := Lib.hid (costOf_any op d a b m W.drew)
    have u3 := CB.cell hD1.out.b3 0
    simp only [List.getElem?_cons_zero] at u3
    obtain ⟨u2, f2⟩ := hD1.out.at k (by rw [hln]; exact hk')
    obtain ⟨n0, n1, n2, n3, n4⟩ := XB.cells hX1.out
    dsimp only at n0 n1 n2 n3 n4
    have hWBh := Lib.hid hWB
    have hkp1 := Lib.hid (keeps_drew9 (n := w.heap.size) (Bs := Bs) (t := 28) W)
    generalize hct : (fm op).c = ct at *
    have HCt := Lib.hid hct
    clear hct
    generalize hyk : xs.getD k 0 = yk at *
    have HYk := Lib.hid hyk
    clear hyk hD hX hWB
    gi_wp2
    -- REGION 5 BEGIN
    have hS0 : (fun w' => w'.cell? ⟨p3, 0, none⟩ = some (.slice (some ⟨p2, 0, none⟩) cs.length cs.length) ∧ w'.cell? ⟨Bx, 0, none⟩ = some (.string op) ∧ w'.cell? ⟨Bx, 1, none⟩ = some (.int .i64 d) ∧ w'.cell? ⟨Bx, 2, none⟩ = some (.int .i64 a) ∧ w'.cell? ⟨Bx, 3, none⟩ = some (.int .i64 b) ∧ w'.cell? ⟨Bx, 4, none⟩ = some (.int .i64 m)) W.drew := ⟨u3, n0, n1, n2, n3, n4⟩
    refine region_round (S := fun w' => w'.cell? ⟨p3, 0, none⟩ = some (.slice (some ⟨p2, 0, none⟩) cs.length cs.length) ∧ w'.cell? ⟨Bx, 0, none⟩ = some (.string op) ∧ w'.cell? ⟨Bx, 1, none⟩ = some (.int .i64 d) ∧ w'.cell? ⟨Bx, 2, none⟩ = some (.int .i64 a) ∧ w'.cell? ⟨Bx, 3, none⟩ = some (.int .i64 b) ∧ w'.cell? ⟨Bx, 4, none⟩ = some (.int .i64 m)) (by kernel_rfl) (by kernel_rfl) (fun _ _ h => h) hS0 (fun hHeld => ?_)
    refine wpAnyH_take (i := 0) (v := ?_) rfl (by kernel_rfl) (by kernel_rfl) (by kernel_rfl) (fun _ _ _ h => h) (Or.inl ⟨by rfl, ?_⟩) (by assumption) ?_
    rotate_left 1
    · (intro w hSw; (try dsimp only at hSw); go_simp; try with_reducible rfl)
    try simp only [Act.put, List.setIfInBounds_toArray, List.set_cons_zero, List.set_cons_succ]
    refine wpAnyH_take (i := 1) (v := ?_) rfl (by kernel_rfl) (by kernel_rfl) (by kernel_rfl) (fun _ _ _ h => h) (Or.inl ⟨by rfl, ?_⟩) (by assumption) ?_
    rotate_left 1
    · (intro w hSw; (try dsimp only at hSw); go_simp; try with_reducible rfl)
    try simp only [Act.put, List.setIfInBounds_toArray, List.set_cons_zero, List.set_cons_succ]
    refine wpAnyH_take (i := 2) (v := ?_) rfl (by kernel_rfl) (by kernel_rfl) (by kernel_rfl) (fun _ _ _ h => h) (Or.inl ⟨by rfl, ?_⟩) (by assumption) ?_
    rotate_left 1
    · (intro w hSw; (try dsimp only at hSw); go_simp; try with_reducible rfl)
    try simp only [Act.put, List.setIfInBounds_toArray, List.set_cons_zero, List.set_cons_succ]
    refine wpAnyH_take (i := 3) (v := ?_) rfl (by kernel_rfl) (by kernel_rfl) (by kernel_rfl) (fun _ _ _ h => h) (Or.inl ⟨by rfl, ?_⟩) (by assumption) ?_
    rotate_left 1
    · (intro w hSw; (try dsimp only at hSw); go_simp; try with_reducible rfl)
    try simp only [Act.put, List.setIfInBounds_toArray, List.set_cons_zero, List.set_cons_succ]
    refine wpAnyH_take (i := 4) (v := ?_) rfl (by kernel_rfl) (by kernel_rfl) (by kernel_rfl) (fun _ _ _ h => h) (Or.inl ⟨by rfl, ?_⟩) (by assumption) ?_
    rotate_left 1
    · (intro w hSw; (try dsimp only at hSw); go_simp; try with_reducible rfl)
    try simp only [Act.put, List.setIfInBounds_toArray, List.set_cons_zero, List.set_cons_succ]
    refine wpAnyH_take (i := 6) (v := ?_) rfl (by kernel_rfl) (by kernel_rfl) (by kernel_rfl) (fun _ _ _ h => h) (Or.inl ⟨by rfl, ?_⟩) (by assumption) ?_
    rotate_left 1
    · (intro w hSw; (try dsimp only at hSw); go_simp; try with_reducible rfl)
    try simp only [Act.put, List.setIfInBounds_toArray, List.set_cons_zero, List.set_cons_succ]
    refine wpAnyH_ready (rs := [5, 7]) (by kernel_rfl) (by simp) ?_
    refine AllReadyH.cons rfl (fun K hK => ?_) (AllReadyH.cons rfl (fun K hK => ?_) AllReadyH.nil)
    focus
      try simp only [List.getElem_toArray, List.getElem_cons_zero, List.getElem_cons_succ]
      go_simp
      refine hK.out _ _ ⟨u3, n0, n1, n2, n3, n4⟩ (fun hHeld => ?_)
      clear hK K
      try simp only [Act.put, List.setIfInBounds_toArray, List.set_cons_zero, List.set_cons_succ]
      refine wpAnyH_ready (rs := [7]) (by kernel_rfl) (by simp) ?_
      refine AllReadyH.cons rfl (fun K hK => ?_) AllReadyH.nil
      try simp only [List.getElem_toArray, List.getElem_cons_zero, List.getElem_cons_succ]
      go_simp
      go_at_call 139
      refine hC.out.mono ?_
      rintro e w3 ⟨rfl, hb3⟩
      have hD3 := Lib.hid (hD1.out.below hb3)
      have hX3 := CB.below (show CB 65 W.drew Bx _ from hX1.out) hb3 (CB.lt hX1.out)
      have v3 := CB.cell hD3.out.b3 0
      simp only [List.getElem?_cons_zero] at v3
      obtain ⟨v2, g2⟩ := hD3.out.at k (by rw [hln]; exact hk')
      rw [HYk.out] at v2
      obtain ⟨m0, m1, m2, m3, m4⟩ := XB.cells (show XB w3 Bx ⟨op, d, a, b, m⟩ from hX3)
      dsimp only at m0 m1 m2 m3 m4
      have hD4 := Lib.hid (hD3.out.put k (max yk ct))
      rw [← hYe.out, ← hT0.out] at hD4
      have hkp3 := Lib.hid (keeps_t9 (keeps_below9 (n := w.heap.size) (Bs := Bs) (t := 28) hb3 hD1.out.be.size) (keeps_cb (k := k) (v := .int .i64 (max yk ct)) hD3.out.ib (by have := hD3.out.h1; have := hD3.out.h12; omega) (by have := hD3.out.h23; have := Zb.out; omega)))
      have hz3 := Lib.hid hb3.size
      have hX4 := (Below.heap_setCell w3 ⟨p2, k, none⟩ (.int .i64 (max yk ct)) Bx (by show Bx ≠ p2; have := hD3.out.h23; have := Zb.out; omega)).trans (show w3.heap[Bx]? = _ from hX3)
      have x3 := CB.cell hD4.out.b3 0
      simp only [List.getElem?_cons_zero] at x3
      obtain ⟨l0, l1, l2, l3, l4⟩ := XB.cells (show XB (w3.setCell ⟨p2, k, none⟩ (.int .i64 (max yk ct))) Bx ⟨op, d, a, b, m⟩ from hX4)
      dsimp only at l0 l1 l2 l3 l4
      refine hK.out _ _ ⟨v3, m0, m1, m2, m3, m4⟩ (fun hHeld => ?_)
      clear hK K
      try simp only [Act.put, List.setIfInBounds_toArray, List.set_cons_zero, List.set_cons_succ]
      refine wpAnyH_take (i := 8) (v := ?_) rfl (by kernel_rfl) (by kernel_rfl) (by kernel_rfl) (fun _ _ _ h => h) (Or.inl ⟨by rfl, ?_⟩) (by assumption) ?_
      rotate_left 1
      · (intro w hSw; (try dsimp only at hSw); go_simp; try with_reducible rfl)
      try simp only [Act.put, List.setIfInBounds_toArray, List.set_cons_zero, List.set_cons_succ]
      refine wpAnyH_take (i := 9) (v := ?_) rfl (by kernel_rfl) (by kernel_rfl) (by kernel_rfl) (fun _ _ _ h => h) (Or.inl ⟨by rfl, ?_⟩) (by assumption) ?_
      rotate_left 1
      · (intro w hSw; (try dsimp only at hSw); go_simp; try with_reducible rfl)
      try simp only [Act.put, List.setIfInBounds_toArray, List.set_cons_zero, List.set_cons_succ]
      refine wpAnyH_ready (rs := [10]) (by kernel_rfl) (by simp) ?_
      refine AllReadyH.cons rfl (fun K hK => ?_) AllReadyH.nil
      try simp only [List.getElem_toArray, List.getElem_cons_zero, List.getElem_cons_succ]
      go_simp
      refine hK.out _ _ ⟨x3, l0, l1, l2, l3, l4⟩ (fun hHeld => ?_)
      clear hK K
      try simp only [Act.put, List.setIfInBounds_toArray, List.set_cons_zero, List.set_cons_succ]
      refine wpAnyH_done (by kernel_rfl) ?_ _
      try simp only [Act.put, List.setIfInBounds_toArray, List.set_cons_zero, List.set_cons_succ]
    rotate_left 1
    focus
      try simp only [List.getElem_toArray, List.getElem_cons_zero, List.getElem_cons_succ]
      go_simp
      go_at_call 139
      refine hC.out.mono ?_
      rintro e w3 ⟨rfl, hb3⟩
      have hD3 := Lib.hid (hD1.out.below hb3)
      have hX3 := CB.below (show CB 65 W.drew Bx _ from hX1.out) hb3 (CB.lt hX1.out)
      have v3 := CB.cell hD3.out.b3 0
      simp only [List.getElem?_cons_zero] at v3
      obtain ⟨v2, g2⟩ := hD3.out.at k (by rw [hln]; exact hk')
      rw [HYk.out] at v2
      obtain ⟨m0, m1, m2, m3, m4⟩ := XB.cells (show XB w3 Bx ⟨op, d, a, b, m⟩ from hX3)
      dsimp only at m0 m1 m2 m3 m4
      have hD4 := Lib.hid (hD3.out.put k (max yk ct))
      rw [← hYe.out, ← hT0.out] at hD4
      have hkp3 := Lib.hid (keeps_t9 (keeps_below9 (n := w.heap.size) (Bs := Bs) (t := 28) hb3 hD1.out.be.size) (keeps_cb (k := k) (v := .int .i64 (max yk ct)) hD3.out.ib (by have := hD3.out.h1; have := hD3.out.h12; omega) (by have := hD3.out.h23; have := Zb.out; omega)))
      have hz3 := Lib.hid hb3.size
      have hX4 := (Below.heap_setCell w3 ⟨p2, k, none⟩ (.int .i64 (max yk ct)) Bx (by show Bx ≠ p2; have := hD3.out.h23; have := Zb.out; omega)).trans (show w3.heap[Bx]? = _ from hX3)
      have x3 := CB.cell hD4.out.b3 0
      simp only [List.getElem?_cons_zero] at x3
      obtain ⟨l0, l1, l2, l3, l4⟩ := XB.cells (show XB (w3.setCell ⟨p2, k, none⟩ (.int .i64 (max yk ct))) Bx ⟨op, d, a, b, m⟩ from hX4)
      dsimp only at l0 l1 l2 l3 l4
      refine hK.out _ _ ⟨v3, m0, m1, m2, m3, m4⟩ (fun hHeld => ?_)
      clear hK K
      try simp only [Act.put, List.setIfInBounds_toArray, List.set_cons_zero, List.set_cons_succ]
      refine wpAnyH_ready (rs := [5]) (by kernel_rfl) (by simp) ?_
      refine AllReadyH.cons rfl (fun K hK => ?_) AllReadyH.nil
      try simp only [List.getElem_toArray, List.getElem_cons_zero, List.getElem_cons_succ]
      go_simp
      refine hK.out _ _ ⟨v3, m0, m1, m2, m3, m4⟩ (fun hHeld => ?_)
      clear hK K
      try simp only [Act.put, List.setIfInBounds_toArray, List.set_cons_zero, List.set_cons_succ]
      refine wpAnyH_take (i := 8) (v := ?_) rfl (by kernel_rfl) (by kernel_rfl) (by kernel_rfl) (fun _ _ _ h => h) (Or.inl ⟨by rfl, ?_⟩) (by assumption) ?_
      rotate_left 1
      · (intro w hSw; (try dsimp only at hSw); go_simp; try with_reducible rfl)
      try simp only [Act.put, List.setIfInBounds_toArray, List.set_cons_zero, List.set_cons_succ]
      refine wpAnyH_take (i := 9) (v := ?_) rfl (by kernel_rfl) (by kernel_rfl) (by kernel_rfl) (fun _ _ _ h => h) (Or.inl ⟨by rfl, ?_⟩) (by assumption) ?_
      rotate_left 1
      · (intro w hSw; (try dsimp only at hSw); go_simp; try with_reducible rfl)
      try simp only [Act.put, List.setIfInBounds_toArray, List.set_cons_zero, List.set_cons_succ]
      refine wpAnyH_ready (rs := [10]) (by kernel_rfl) (by simp) ?_
      refine AllReadyH.cons rfl (fun K hK => ?_) AllReadyH.nil
      try simp only [List.getElem_toArray, List.getElem_cons_zero, List.getElem_cons_succ]
      go_simp
      refine hK.out _ _ ⟨x3, l0, l1, l2, l3, l4⟩ (fun hHeld => ?_)
      clear hK K
      try simp only [Act.put, List.setIfInBounds_toArray, List.set_cons_zero, List.set_cons_succ]
      refine wpAnyH_done (by kernel_rfl) ?_ _
      try simp only [Act.put, List.setIfInBounds_toArray, List.set_cons_zero, List.set_cons_succ]
    -- REGION 5 END
    all_goals
      dsimp only [OnlyN]
      clear u3 u2 f2 n0 n1 n2 n3 n4 v3 v2 g2 m0 m1 m2 m3 m4 hX3 hD3 hD1 hX1 hC hS0 hX4 x3 l0 l1 l2 l3 l4
      have hWB6 := Lib.hid (show Bs + 1 ≤ (w3.setCell ⟨p2, k, none⟩ (.int .i64 (max yk ct))).heap.size by rw [World.size_setCell]; exact Nat.le_trans hWBh.out hz3.out)
      have hkA := Lib.hid (keeps_t9 hkp1.out hkp3.out)
      clear hkp1 hkp3 hb3 hz3
      generalize w3.setCell ⟨p2, k, none⟩ (.int .i64 (max yk ct)) = W6 at *
      have q1 := CB.cell hD4.out.pb 1
      simp only [List.getElem?_cons_zero, List.getElem?_cons_succ] at q1
      have hi2 : k < (nds cs).length := by rw [nds_len]; exact hk'
      obtain ⟨bn, rfl, ⟨_, hbB⟩, hcells⟩ := hPN.out W6 hD4.out.be (by omega)
      obtain ⟨Ai, ci, r0, hrs⟩ := hcells k hi2
      rw [nds_at] at r0 hrs
      have hRS := Lib.hid fun (W7 : World) (h : Below w.heap.size W6 W7) => hrs.below h hBN.out
      clear hcells hrs hi2
      generalize hHT : hgT cs xs k = HT9 at *
      generalize ndL cs k cs.length = ns at *
      obtain ⟨vv, hvv⟩ : ∃ vv, vv = max yk ct := ⟨_, rfl⟩
      have hvb : 0 ≤ vv ∧ vv ≤ 84 := by omega
      have HVv := Lib.hid hvv
      rw [← hvv] at hTo hTs
      have hnsl : ns.length ≤ 20 := by omega
      clear hvv hgd hcb hHT
      gi_wp2
      clear q1 r0
      gi_loopw [33] (fun q wq => ∃ t : Nat, t ≤ ns.length ∧ q = .int .i64 t ∧ HG w wq p1 p2 p3 (.slice A cs.length c) (.slice (some ⟨bn, 0, none⟩) cs.length cn) cs.length (HT9 t) ∧ (KeepsOthers W wq ∧ KpB w.heap.size Bs 28 W wq) ∧ Bs + 1 ≤ wq.heap.size ∧ Below w.heap.size W6 wq) (fun q _ => ns.length - (intOf q).toNat)
      case atStart => exact ⟨0, Nat.zero_le _, rfl, hD4.out, hkA.out, hWB6.out, Below.refl _ _⟩
      case round =>
        clear hkA hWB6 hD4
        obtain ⟨t, ht, rfl, hg, hkq, hz, hbq⟩ := hrel
        have hG := Lib.hid hg
        have hKq := Lib.hid hkq
        have hZq := Lib.hid hz
        have hBq := Lib.hid hbq
        clear hg hkq hz hbq
        by_cases hlt : t < ns.length
        · obtain ⟨rb, ro, rfl, hrb, c0, c1⟩ := nd_cells (hRS.out wr hBq.out) hlt
          obtain ⟨⟨q, hq1, hqk⟩, hd0, hd4⟩ := hNd.out _ (List.getElem_mem hlt)
          have hS := hTs.out t hlt
          unfold hstep at hS
          rw [hq1] at c0 hS
          rw [Int.toNat_natCast] at hS
          have hti : (t : Int) < (ns.length : Int) := by omega
          have ht0 : (0 : Int) ≤ (t : Int) := by omega
          have hqi : (q : Int) < (cs.length : Int) := by omega
          have hq0 : (0 : Int) ≤ (q : Int) := by omega
          have hqn : q < cs.length := by omega
          generalize ns[t].2 = dd at *
          have hSt := Lib.hid hS
          clear hS hq1
          have hw9 : IntKind.i64.wrap (dd + vv) = dd + vv := IntWalk.i64_in _ (by omega)
          have ha := (Below.refl wr.heap.size wr).alloc (Nat.le_refl _) (.cells #[.int .i64 q, .int .i64 dd] 117)
          have hDn := Lib.hid (hG.out.below ha).drew
          have hkn := Lib.hid (keeps_t9 hKq.out (keeps_t9 (keeps_below9 (n := w.heap.size) (Bs := Bs) (t := 28) ha hG.out.be.size) (keeps_drew9 _)))
          have hX : CB 117 (wr.alloc (.cells #[.int .i64 q, .int .i64 dd] 117)).drew wr.heap.size [.int .i64 q, .int .i64 dd] := heap_alloc_new wr _
          have hXh := Lib.hid hX
          have hbn := Lib.hid (hBq.out.trans ((ha.mono hG.out.be.size).drew))
          have hzn := Lib.hid (Nat.le_trans hZq.out (Nat.le_trans ha.size (Nat.le_refl (wr.alloc (.cells #[.int .i64 q, .int .i64 dd] 117)).drew.heap.size)))
          clear ha hX
          gi_wp2
          obtain ⟨gx, hgx⟩ : ∃ gx, gx = wr.heap.size := ⟨_, rfl⟩
          have hgp : Hid (gx ≠ p2) := by rw [Hid, hgx]; have := CB.lt hG.out.ib; omega
          rw [← hgx] at hXh ⊢
          have Hgx := Lib.hid hgx
          clear hgx c0 c1
          have d3 := CB.cell hDn.out.b3 0
          have e0 := CB.cell hXh.out 0
          have e1 := CB.cell hXh.out 1
          simp only [List.getElem?_cons_zero, List.getElem?_cons_succ] at d3 e0 e1
          obtain ⟨dk, _⟩ := hDn.out.at k (by rw [hTl.out, hln]; exact hk')
          rw [hTo.out] at dk
          obtain ⟨dq, fq⟩ := hDn.out.at q (by rw [hTl.out, hln]; exact hqn)
          generalize (HT9 t).getD q 0 = yq at *
          have hDp := hDn.out.put q (max yq (dd + vv))
          rw [← hSt.out] at hDp
          have hDq := Lib.hid hDp
          clear hDp
          have hkp := Lib.hid (keeps_t9 hkn.out (keeps_cb (k := q) (v := .int .i64 (max yq (dd + vv))) hDn.out.ib (by have := hDn.out.h1; have := hDn.out.h12; omega) (by have := hDn.out.h23; have := Zb.out; omega)))
          have hbp := Lib.hid (hbn.out.setCell (p := ⟨p2, q, none⟩) (by show w.heap.size ≤ p2; have := hDn.out.h1; have := hDn.out.h12; omega) (.int .i64 (max yq (dd + vv))))
          have hzp := Lib.hid (show Bs + 1 ≤ ((wr.alloc (.cells #[.int .i64 q, .int .i64 dd] 117)).drew.setCell ⟨p2, q, none⟩ (.int .i64 (max yq (dd + vv)))).heap.size by rw [World.size_setCell]; exact hzn.out)
          have hXp : CB 117 _ gx [.int .i64 q, .int .i64 dd] := (Below.heap_setCell (wr.alloc (.cells #[.int .i64 q, .int .i64 dd] 117)).drew ⟨p2, q, none⟩ (.int .i64 (max yq (dd + vv))) gx (by show gx ≠ p2; exact hgp.out)).trans hXh.out
          have h3 := CB.cell hDq.out.b3 0
          have i0 := CB.cell hXp 0
          have i1 := CB.cell hXp 1
          simp only [List.getElem?_cons_zero, List.getElem?_cons_succ] at h3 i0 i1
          obtain ⟨ik, _⟩ := hDq.out.at k (by rw [hTl.out, hln]; exact hk')
          rw [hTo.out] at ik
          clear hXp
          generalize wr.alloc (.cells #[.int .i64 q, .int .i64 dd] 117) = Wn at *
          -- REGION 9 BEGIN
          have hS0 : (fun w' => w'.cell? ⟨p3, 0, none⟩ = some (.slice (some ⟨p2, 0, none⟩) cs.length cs.length) ∧ w'.cell? ⟨gx, 0, none⟩ = some (.int .i64 (q : Int)) ∧ w'.cell? ⟨gx, 1, none⟩ = some (.int .i64 dd) ∧ w'.cell? ⟨p2, k, none⟩ = some (.int .i64 vv)) Wn.drew := ⟨d3, e0, e1, dk⟩
          refine region_round (S := fun w' => w'.cell? ⟨p3, 0, none⟩ = some (.slice (some ⟨p2, 0, none⟩) cs.length cs.length) ∧ w'.cell? ⟨gx, 0, none⟩ = some (.int .i64 (q : Int)) ∧ w'.cell? ⟨gx, 1, none⟩ = some (.int .i64 dd) ∧ w'.cell? ⟨p2, k, none⟩ = some (.int .i64 vv)) (by kernel_rfl) (by kernel_rfl) (fun _ _ h => h) hS0 (fun hHeld => ?_)
          refine wpAnyH_take (i := 0) (v := ?_) rfl (by kernel_rfl) (by kernel_rfl) (by kernel_rfl) (fun _ _ _ h => h) (Or.inl ⟨by rfl, ?_⟩) (by assumption) ?_
          rotate_left 1
          · (intro w hSw; (try dsimp only at hSw); go_simp; try with_reducible rfl)
          try simp only [Act.put, List.setIfInBounds_toArray, List.set_cons_zero, List.set_cons_succ]
          refine wpAnyH_take (i := 1) (v := ?_) rfl (by kernel_rfl) (by kernel_rfl) (by kernel_rfl) (fun _ _ _ h => h) (Or.inl ⟨by rfl, ?_⟩) (by assumption) ?_
          rotate_left 1
          · (intro w hSw; (try dsimp only at hSw); go_simp; try with_reducible rfl)
          try simp only [Act.put, List.setIfInBounds_toArray, List.set_cons_zero, List.set_cons_succ]
          refine wpAnyH_take (i := 2) (v := ?_) rfl (by kernel_rfl) (by kernel_rfl) (by kernel_rfl) (fun _ _ _ h => h) (Or.inl ⟨by rfl, ?_⟩) (by assumption) ?_
          rotate_left 1
          · (intro w hSw; (try dsimp only at hSw); go_simp; try with_reducible rfl)
          try simp only [Act.put, List.setIfInBounds_toArray, List.set_cons_zero, List.set_cons_succ]
          refine wpAnyH_take (i := 3) (v := ?_) rfl (by kernel_rfl) (by kernel_rfl) (by kernel_rfl) (fun _ _ _ h => h) (Or.inl ⟨by rfl, ?_⟩) (by assumption) ?_
          rotate_left 1
          · (intro w hSw; (try dsimp only at hSw); go_simp; try with_reducible rfl)
          try simp only [Act.put, List.setIfInBounds_toArray, List.set_cons_zero, List.set_cons_succ]
          refine wpAnyH_take (i := 4) (v := ?_) rfl (by kernel_rfl) (by kernel_rfl) (by kernel_rfl) (fun _ _ _ h => h) (Or.inl ⟨by rfl, ?_⟩) (by assumption) ?_
          rotate_left 1
          · (intro w hSw; (try dsimp only at hSw); go_simp; try with_reducible rfl)
          try simp only [Act.put, List.setIfInBounds_toArray, List.set_cons_zero, List.set_cons_succ]
          refine wpAnyH_take (i := 5) (v := ?_) rfl (by kernel_rfl) (by kernel_rfl) (by kernel_rfl) (fun _ _ _ h => h) (Or.inl ⟨by rfl, ?_⟩) (by assumption) ?_
          rotate_left 1
          · (intro w hSw; (try dsimp only at hSw); go_simp; try with_reducible rfl)
          try simp only [Act.put, List.setIfInBounds_toArray, List.set_cons_zero, List.set_cons_succ]
          refine wpAnyH_take (i := 6) (v := ?_) rfl (by kernel_rfl) (by kernel_rfl) (by kernel_rfl) (fun _ _ _ h => h) (Or.inl ⟨by rfl, ?_⟩) (by assumption) ?_
          rotate_left 1
          · (intro w hSw; (try dsimp only at hSw); go_simp; try with_reducible rfl)
          try simp only [Act.put, List.setIfInBounds_toArray, List.set_cons_zero, List.set_cons_succ]
          refine wpAnyH_take (i := 8) (v := ?_) rfl (by kernel_rfl) (by kernel_rfl) (by kernel_rfl) (fun _ _ _ h => h) (Or.inl ⟨by rfl, ?_⟩) (by assumption) ?_
          rotate_left 1
          · (intro w hSw; (try dsimp only at hSw); go_simp; try with_reducible rfl)
          try simp only [Act.put, List.setIfInBounds_toArray, List.set_cons_zero, List.set_cons_succ]
          refine wpAnyH_take (i := 9) (v := ?_) rfl (by kernel_rfl) (by kernel_rfl) (by kernel_rfl) (fun _ _ _ h => h) (Or.inl ⟨by rfl, ?_⟩) (by assumption) ?_
          rotate_left 1
          · (intro w hSw; (try dsimp only at hSw); go_simp; try with_reducible rfl)
          try simp only [Act.put, List.setIfInBounds_toArray, List.set_cons_zero, List.set_cons_succ]
          refine wpAnyH_take (i := 10) (v := ?_) rfl (by kernel_rfl) (by kernel_rfl) (by kernel_rfl) (fun _ _ _ h => h) (Or.inl ⟨by rfl, ?_⟩) (by assumption) ?_
          rotate_left 1
          · (intro w hSw; (try dsimp only at hSw); go_simp; try with_reducible rfl)
          try simp only [Act.put, List.setIfInBounds_toArray, List.set_cons_zero, List.set_cons_succ]
          refine wpAnyH_take (i := 11) (v := ?_) rfl (by kernel_rfl) (by kernel_rfl) (by kernel_rfl) (fun _ _ _ h => h) (Or.inl ⟨by rfl, ?_⟩) (by assumption) ?_
          rotate_left 1
          · (intro w hSw; (try dsimp only at hSw); go_simp; try with_reducible rfl)
          try simp only [Act.put, List.setIfInBounds_toArray, List.set_cons_zero, List.set_cons_succ]
          refine wpAnyH_take (i := 12) (v := ?_) rfl (by kernel_rfl) (by kernel_rfl) (by kernel_rfl) (fun _ _ _ h => h) (Or.inl ⟨by rfl, ?_⟩) (by assumption) ?_
          rotate_left 1
          · (intro w hSw; (try dsimp only at hSw); go_simp; try with_reducible rfl)
          try simp only [Act.put, List.setIfInBounds_toArray, List.set_cons_zero, List.set_cons_succ]
          refine wpAnyH_take (i := 13) (v := ?_) rfl (by kernel_rfl) (by kernel_rfl) (by kernel_rfl) (fun _ _ _ h => h) (Or.inl ⟨by rfl, ?_⟩) (by assumption) ?_
          rotate_left 1
          · (intro w hSw; (try dsimp only at hSw); go_simp; try with_reducible rfl)
          try simp only [Act.put, List.setIfInBounds_toArray, List.set_cons_zero, List.set_cons_succ]
          refine wpAnyH_take (i := 14) (v := ?_) rfl (by kernel_rfl) (by kernel_rfl) (by kernel_rfl) (fun _ _ _ h => h) (Or.inl ⟨by rfl, ?_⟩) (by assumption) ?_
          rotate_left 1
          · (intro w hSw; (try dsimp only at hSw); go_simp; try with_reducible rfl)
          try simp only [Act.put, List.setIfInBounds_toArray, List.set_cons_zero, List.set_cons_succ]
          refine wpAnyH_ready (rs := [7]) (by kernel_rfl) (by simp) ?_
          refine AllReadyH.cons rfl (fun K hK => ?_) AllReadyH.nil
          try simp only [List.getElem_toArray, List.getElem_cons_zero, List.getElem_cons_succ]
          go_simp
          refine hK.out _ _ ⟨d3, e0, e1, dk⟩ (fun hHeld => ?_)
          clear hK K
          try simp only [Act.put, List.setIfInBounds_toArray, List.set_cons_zero, List.set_cons_succ]
          refine wpAnyH_take (i := 15) (v := ?_) rfl (by kernel_rfl) (by kernel_rfl) (by kernel_rfl) (fun _ _ _ h => h) (Or.inl ⟨by rfl, ?_⟩) (by assumption) ?_
          rotate_left 1
          · (intro w hSw; (try dsimp only at hSw); go_simp; try with_reducible rfl)
          try simp only [Act.put, List.setIfInBounds_toArray, List.set_cons_zero, List.set_cons_succ]
          refine wpAnyH_take (i := 16) (v := ?_) rfl (by kernel_rfl) (by kernel_rfl) (by kernel_rfl) (fun _ _ _ h => h) (Or.inl ⟨by rfl, ?_⟩) (by assumption) ?_
          rotate_left 1
          · (intro w hSw; (try dsimp only at hSw); go_simp; try with_reducible rfl)
          try simp only [Act.put, List.setIfInBounds_toArray, List.set_cons_zero, List.set_cons_succ]
          refine wpAnyH_ready (rs := [17]) (by kernel_rfl) (by simp) ?_
          refine AllReadyH.cons rfl (fun K hK => ?_) AllReadyH.nil
          try simp only [List.getElem_toArray, List.getElem_cons_zero, List.getElem_cons_succ]
          go_simp
          refine hK.out _ _ ⟨h3, i0, i1, ik⟩ (fun hHeld => ?_)
          clear hK K
          try simp only [Act.put, List.setIfInBounds_toArray, List.set_cons_zero, List.set_cons_succ]
          refine wpAnyH_done (by kernel_rfl) ?_ _
          try simp only [Act.put, List.setIfInBounds_toArray, List.set_cons_zero, List.set_cons_succ]
          -- REGION 9 END
          dsimp only [OnlyN]
          clear d3 e0 e1 dk dq fq h3 i0 i1 ik hS0
          gi_wp2
          go_roundw
          case rel => exact ⟨t + 1, by omega, by go_num, hDq.out, hkp.out, hzp.out, hbp.out⟩
          case measure => simp [intOf]; omega
        · obtain rfl : t = ns.length := by omega
          gi_wp2
          refine ⟨hKq.out.1.from _, hKq.out.2, ?_, hZq.out⟩
          rw [HP.out, hsn.out, hSe.out]; exact hG.out
  case done =>
    rintro D ys W hD rfl ⟨hHG, _⟩ hK
    rw [hgP_all] at hHG
    have hDw : w.heap.size ≤ D := Nat.le_trans B9.out.size hD
    have u3 := CB.cell hHG.b3 0
    simp only [List.getElem?_cons_zero] at u3
    have hHh := Lib.hid hHG
    have hKh := Lib.hid hK
    clear hHG hK
    gi_wp2
    have rD : ∀ r, some D = some r → w.heap.size ≤ r ∧ ∃ o : Obj, W.heap[r]? = some o ∧ o.isCells = false := fun r e => by cases e; exact ⟨hDw, _, hKh.out, rfl⟩
    have hL2 := hHh.out.kept (grownBy_putObj' W D (.deferred none)) rD
    have hib : IB (W.putObj D (.deferred none)) p2 3 (hL cs) := hL2.ib
    have hX := OW.ofIB (lo := w.heap.size) (hi := (W.putObj D (.deferred none)).heap.size) hib (by rw [hL_len]; omega) (by have := hL2.h1; have := hL2.h12; omega) (CB.lt hL2.ib)
    rw [hL_len] at hX
    refine ⟨by simp, .inl ⟨_, _, rfl, run_takeDeferred hKh.out, ?_⟩⟩
    exact ⟨_, results_tmp rfl _ _ _, some ⟨p2, 0, none⟩, cs.length, by rw [hL_len]; rfl, by rw [hL_len]; exact hX, hL2.be⟩
end Go.Proofs.Ytpgdccfpegdcoaa

/- Chapter 9: heights of the model. -/
namespace Go.Proofs.Ytpgdccfpegdcoaa
open Go.RowKit
set_option linter.unusedVariables false
set_option maxRecDepth 100000

set_option maxHeartbeats 8000000 in
theorem orHeights_any (L B : Nat) (A : Option Addr) (c : Nat) (cs : List In) (w : World) (hl : cs.length ≤ 20) (hgood : ∀ x ∈ cs, goodIn x = true) (hes : RS In.enc 5 w L B A cs) (hB : B ≤ w.heap.size) :
    Calls Try.prog 143 #[.slice A cs.length c] w (FreshI w (hL cs)) := by
  have H := Lib.hid (orDelays_any L B A c cs w hl hgood hes hB)
  have hmk := run_make_ints cs.length (by omega)
  have hE := Lib.hid fun (W : World) (hW : Below w.heap.size w W) => hes.below hW hB
  have hRl := Lib.hid (dRows_len cs cs.length)
  have hRa := Lib.hid fun (i : Nat) (h : i < (dRows cs cs.length).length) => dRows_at cs cs.length h
  have hTl := Lib.hid (dTab_len cs)
  have hTa := Lib.hid fun (i j : Nat) (h : j < (dTab cs i cs.length).length) => dTab_at cs i cs.length h
  have hZ0 : Hid (zeros cs.length = hz cs cs.length) := (hz_top cs).symm
  have hZb := Lib.hid (hz_bot cs)
  have hZl := Lib.hid (hz_len cs)
  have hIl := Lib.hid (hzr_len cs)
  have hIz := Lib.hid (hzr_start cs)
  have hIe := Lib.hid fun (i : Nat) (h : i < cs.length) => hzr_end h
  have hIy := Lib.hid fun (i j : Nat) (hi : i < cs.length) (hij : i < j) (hj : j < cs.length) (h : 0 ≤ dT cs i j) => hzr_yes hi hij hj h
  have hIn := Lib.hid fun (i j : Nat) (h : ¬ 0 ≤ dT cs i j) => hzr_no h
  have hIb := Lib.hid fun (i j : Nat) (hi : i < cs.length) => hzr_bd hl j hi
  have hIg := Lib.hid fun (i j q : Nat) (h1 : i < q) (h2 : q < cs.length) => hzr_gt (j := j) h1 h2
  have hHb := Lib.hid fun (q : Nat) => hH_bd hl q
  have hDb := Lib.hid fun (i j : Nat) => dT_bd cs i j
  have hLl := Lib.hid (hL_len cs)
  have hGd := Lib.hid hgood
  have hCe : Hid (∀ i (h : i < cs.length), cstA cs i = (fm cs[i].op).c) := fun i h => by unfold cstA; rw [inAt_eq h]
  have hsub : IntKind.i64.wrap ((cs.length : Int) - 1) = (cs.length : Int) - 1 := IntWalk.i64_in _ (by omega)
  clear hes hgood hB
  generalize dRows cs cs.length = TT at *
  generalize dTab cs = T at *
  generalize dT cs = E at *
  generalize hz cs = HZ at *
  generalize hzr cs = HR at *
  generalize hL cs = HL at *
  generalize hH cs = HH at *
  generalize cstA cs = CA at *
  go_enter Try.func143, Try.ntmps143
  go_wp2_with (fail)
  refine H.out.mono ?_
  rintro e w1 ⟨At, ct, rfl, hox, hb1⟩
  have hXT := Lib.hid (OX.rs hox)
  have hB1 := Lib.hid hb1
  have hO0 : Hid (OW (w1.alloc (.cells (intCells (zeros cs.length)) 3)) w1.heap.size (w1.alloc (.cells (intCells (zeros cs.length)) 3)).heap.size (.slice (some ⟨w1.heap.size, 0, none⟩) cs.length cs.length) (HZ cs.length)) := by
    have h : IB (w1.alloc (.cells (intCells (zeros cs.length)) 3)) w1.heap.size 3 (zeros cs.length) := heap_alloc_new w1 _
    have h2 := OW.ofIB (lo := w1.heap.size) (hi := (w1.alloc (.cells (intCells (zeros cs.length)) 3)).heap.size) h (by simp [zeros]; omega) (Nat.le_refl _) (by simp)
    have hz : (zeros cs.length).length = cs.length := by simp [zeros]
    rw [hz, hZ0.out] at h2
    rw [hZ0.out]
    exact h2
  have hb2 := Lib.hid ((Below.refl w1.heap.size w1).alloc (Nat.le_refl _) (.cells (intCells (zeros cs.length)) 3))
  clear hox hb1
  rw [hRl.out]
  go_wp2_with (fail)
  clear hmk
  generalize hg : w1.heap.size = g at hO0 ⊢
  generalize w1.alloc (.cells (intCells (zeros cs.length)) 3) = W2 at *
  have hG := Lib.hid hg
  clear hg
  go_loopw [5] (fun q wr => ∃ k : Nat, k ≤ cs.length ∧ q = .int .i64 ((k : Int) - 1) ∧ OW wr g wr.heap.size (.slice (some ⟨g, 0, none⟩) cs.length cs.length) (HZ k) ∧ Below w1.heap.size w1 wr) (fun q _ => (intOf q + 1).toNat)
  case atStart => exact ⟨cs.length, Nat.le_refl _, rfl, hO0.out, hb2.out⟩
  case round =>
    clear hO0 hb2
    obtain ⟨k, hk, rfl, how, hbel⟩ := hrel
    have hO := Lib.hid how
    have hBL := Lib.hid hbel
    clear how hbel
    rcases Nat.eq_zero_or_pos k with rfl | hpos
    · have hfin := Lib.hid (hB1.out.trans (hBL.out.mono hB1.out.size))
      have hlg : w.heap.size ≤ g := by rw [← hG.out]; exact hB1.out.size
      have hO9 := Lib.hid (hO.out.lower hlg)
      rw [hZb.out] at hO9
      clear hlg
      go_wp2
      go_ret
      exact ⟨_, _, by rw [hLl.out]; rfl, by rw [hLl.out]; exact hO9.out, hfin.out⟩
    · obtain ⟨p, rfl⟩ : ∃ p, k = p + 1 := ⟨k - 1, by omega⟩
      have hp1 : (((p + 1 : Nat) : Int) - 1) = (p : Int) := by omega
      rw [hp1]
      clear hp1
      have hlt : p < cs.length := by omega
      have hji : (p : Int) < (cs.length : Int) := by omega
      have hj0 : (0 : Int) ≤ (p : Int) := by omega
      have hws : IntKind.i64.wrap ((p : Int) - 1) = (p : Int) - 1 := IntWalk.i64_in _ (by omega)
      have hbw := Lib.hid (hB1.out.trans (hBL.out.mono hB1.out.size))
      obtain ⟨b, o, rfl, ⟨_, hbB⟩, hc⟩ := In.cells (hE.out wr hbw.out) (by omega)
      obtain ⟨c1, _⟩ := hc p hlt
      have hok := (good_parts (hGd.out _ (List.getElem_mem hlt))).2.2.2.1
      have hce := hCe.out p hlt
      have hC := Lib.hid fun (W : World) => cdCost_any cs[p].op W hok
      rw [← hce] at hC
      clear hc hok hce
      generalize cs[p].op = op at *
      have hIp := Lib.hid (hIz.out p)
      obtain ⟨_, fp⟩ := OW.at9 hO.out p (by rw [hZl.out]; exact hlt)
      obtain ⟨op0, _⟩ := OW.at9 hO.out p (by rw [hZl.out]; exact hlt)
      have hP3 := hO.out.put9 p (CA p)
      rw [← hIp.out] at hP3
      have hzs : (wr.setCell ⟨g, p, none⟩ (.int .i64 (CA p))).heap.size = wr.heap.size := World.size_setCell _ _ _
      have hO3 := Lib.hid (show OW (wr.setCell ⟨g, p, none⟩ (.int .i64 (CA p))) g (wr.setCell ⟨g, p, none⟩ (.int .i64 (CA p))).heap.size (.slice (some ⟨g, 0, none⟩) cs.length cs.length) (HR p (p + 1)) from by rw [hzs]; exact hP3)
      have hb3 := Lib.hid (hBL.out.setCell (p := ⟨g, p, none⟩) (by rw [hG.out]; exact Nat.le_refl _) (.int .i64 (CA p)))
      clear hP3 hzs
      go_wp2_with (fail)
      refine (hC.out _).mono ?_
      rintro e w3 ⟨rfl, rfl⟩
      go_wp2
      clear c1 fp op0 hO hBL hC
      generalize wr.setCell ⟨g, p, none⟩ (.int .i64 (CA p)) = W3 at *
      go_loopw [6] (fun q wq => ∃ j : Nat, p < j ∧ j ≤ cs.length ∧ q = .int .i64 j ∧ OW wq g wq.heap.size (.slice (some ⟨g, 0, none⟩) cs.length cs.length) (HR p j) ∧ Below w1.heap.size w1 wq) (fun q _ => cs.length - (intOf q).toNat)
      case atStart => exact ⟨p + 1, Nat.lt_succ_self _, hlt, by go_num, hO3.out, hb3.out⟩
      case round =>
        clear hO3 hb3
        obtain ⟨j, hpj, hj, rfl, how, hbel⟩ := hrel
        have hO := Lib.hid how
        have hBL := Lib.hid hbel
        clear how hbel
        by_cases hjn : j < cs.length
        · have hjin : (j : Int) < (cs.length : Int) := by omega
          have hj00 : (0 : Int) ≤ (j : Int) := by omega
          obtain ⟨xb, xo, Ai, ci, rfl, hxb, xc0, hI⟩ := XS.at hXT.out (show p < TT.length by rw [hRl.out]; omega)
          rw [hRa.out p (by rw [hRl.out]; omega)] at xc0 hI
          rw [hTl.out] at xc0
          obtain ⟨rb, ro, rfl, ⟨_, hrb⟩, hcc⟩ := hI (by rw [hTl.out]; omega)
          have rc0 := hcc j (by rw [hTl.out]; exact hjn)
          rw [hTa.out p j (by rw [hTl.out]; exact hjn)] at rc0
          have xc := (hBL.out.cell (p := ⟨xb, xo + p, none⟩) hxb).trans xc0
          have rc := (hBL.out.cell (p := ⟨rb, ro + j, none⟩) hrb).trans rc0
          have hlen := hIl.out p j
          obtain ⟨oj, fj⟩ := OW.at9 hO.out p (by rw [hlen]; exact hlt)
          obtain ⟨oi, _⟩ := OW.at9 hO.out j (by rw [hlen]; omega)
          have hY := Lib.hid (hIy.out p j hlt hpj hjn)
          have hN := Lib.hid (hIn.out p j)
          have hb0 := hIg.out p j j hpj hjn
          have hb00 := hHb.out j
          rw [← hb0] at hb00
          have hb1 := hDb.out p j
          have hPut := Lib.hid fun (x : Int) => hO.out.put9 p x
          clear hcc hI xc0 rc0 hb0
          generalize hTT : HR p (j + 1) = En at *
          have hTh := Lib.hid hTT
          clear hTT
          generalize HR p j = xs at *
          generalize E p j = dd at *
          generalize xs.getD p 0 = yj at *
          generalize xs.getD j 0 = yi at *
          have hw9 : IntKind.i64.wrap (dd + yi) = dd + yi := IntWalk.i64_in _ (by omega)
          by_cases h0 : 0 ≤ dd
          · have hY2 := Lib.hid (hY.out h0)
            clear hY hN
            have hlg : w1.heap.size ≤ g := by rw [hG.out]; exact Nat.le_refl _
            have hBs := Lib.hid ((hBL.out.setCell (p := ⟨g, p, none⟩) hlg (.int .i64 (max yj (dd + yi)))).drew)
            clear hlg
            have hfin := Lib.hid (show OW (wr.setCell ⟨g, p, none⟩ (.int .i64 (max yj (dd + yi)))).drew g (wr.setCell ⟨g, p, none⟩ (.int .i64 (max yj (dd + yi)))).drew.heap.size (.slice (some ⟨g, 0, none⟩) cs.length cs.length) En from by
              rw [hY2.out]
              have hz : (wr.setCell ⟨g, p, none⟩ (.int .i64 (max yj (dd + yi)))).heap.size = wr.heap.size := World.size_setCell _ _ _
              show OW (wr.setCell ⟨g, p, none⟩ (.int .i64 (max yj (dd + yi)))) g (wr.setCell ⟨g, p, none⟩ (.int .i64 (max yj (dd + yi)))).heap.size _ _
              rw [hz]; exact hPut.out _)
            go_wp2_with (fail)
            go_region_law (go_simp; go_at_call 141; (with_reducible refine (l1Most_9 _ _ _).mono ?_); rintro e w' ⟨rfl, rfl⟩)
            all_goals
              go_wp2
              go_roundw
              case rel => exact ⟨j + 1, by omega, by omega, by go_num, by rw [hTh.out]; exact hfin.out, hBs.out⟩
              case measure => simp [intOf]; omega
          · have hN2 := Lib.hid (hN.out (by omega))
            clear hY hN
            go_wp2
            go_roundw
            case rel => exact ⟨j + 1, by omega, by omega, by go_num, by rw [hTh.out, hN2.out]; exact hO.out, hBL.out⟩
            case measure => simp [intOf]; omega
        · obtain rfl : j = cs.length := by omega
          have hE9 := Lib.hid (hIe.out p hlt)
          go_wp2
          go_roundw
          case rel => exact ⟨p, by omega, rfl, by rw [← hE9.out]; exact hO.out, hBL.out⟩
          case measure => simp [intOf] <;> omega
end Go.Proofs.Ytpgdccfpegdcoaa
