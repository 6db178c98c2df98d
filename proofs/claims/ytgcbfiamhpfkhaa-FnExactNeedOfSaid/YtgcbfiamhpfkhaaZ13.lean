/- Texts of this proof, one behind the other: EC, ED, EE, EF, EG, EI. -/
import Derived.Test.YtgcbfiamhpfkhaaEB
import Derived.BigRegion
import Derived.WalkKit
import Derived.WalkSpells
import Derived.WalkLawsBesides
import Derived.Lib.Hide
import Derived.Test.YtgcbfiamhpfkhaaD2
import Derived.Test.YtgcbfiamhpfkhaaJ
import Derived.BigQuiet
/- A region that draws its order, by what holds of each of its temporaries once it is there. -/
namespace Go.Proofs.Ytgcbfiamhpfkhaa
open Go.RowKit
set_option linter.unusedVariables false

section
variable {P : Program} {ops : Array Oper} {Q : Exit → Act → World → Prop} {md : Region.Mode}
theorem ready_mem {listed : Array Bool} {i : Nat} (h : i ∈ Region.ready md ops listed) :
    i < ops.size ∧ listed.getD i true = false ∧ ∀ o, ops[i]? = some o → (o.after.all fun e => !Region.binds md e || listed.getD e.on false) = true := by
  unfold Region.ready at h
  rw [List.mem_filter, List.mem_range, Bool.and_eq_true] at h
  refine ⟨h.1, by simpa using h.2.1, fun o ho => ?_⟩
  have := h.2.2
  rw [ho] at this
  exact this
theorem getD_in {l : Array Bool} {i : Nat} (h : i < l.size) (d : Bool) : l.getD i d = l[i] := by
  simp [Array.getD, h]
theorem all_listed (hpre : (List.range ops.size).all (fun i => ((ops[i]?).map fun o => o.after.all fun e => decide (e.on < i)).getD true) = true) {listed : Array Bool}
    (hs : listed.size = ops.size) (hr : Region.ready md ops listed = []) : ∀ i, i < ops.size → listed.getD i false = true := by
  intro i
  induction i using Nat.strongRecOn with
  | ind i ih =>
    intro hi
    cases hl : listed.getD i false with
    | true => rfl
    | false =>
      exfalso
      have hmem : i ∈ Region.ready md ops listed := by
        unfold Region.ready
        rw [List.mem_filter, List.mem_range, Bool.and_eq_true]
        refine ⟨hi, ?_, ?_⟩
        · rw [getD_in (by omega)] at hl ⊢; rw [hl]; rfl
        · have hp := List.all_eq_true.1 hpre i (List.mem_range.2 hi)
          rw [Array.getElem?_eq_getElem hi] at hp ⊢
          simp only [Option.map_some, Option.getD_some] at hp ⊢
          rw [Array.all_eq_true_iff_forall_mem] at hp ⊢
          intro e he
          have h1 := of_decide_eq_true (hp e he)
          rw [ih e.on h1 (by omega)]; simp
      rw [hr] at hmem; cases hmem
theorem count_set : ∀ (l : List Bool) (i : Nat), l[i]? = some false → (l.set i true).count false + 1 = l.count false
  | [], i, h => by cases h
  | b :: l, 0, h => by simp at h; subst h; simp
  | b :: l, i + 1, h => by
    simp at h
    have := count_set l i h
    simp only [List.set_cons_succ, List.count_cons]
    omega
/-- WHATEVER ORDER IS DRAWN: what each operation keeps holds at the end. -/
theorem wpAny_inv (I : Array Bool → Act → World → Prop)
    (hsz : ∀ l a w, I l a w → l.size = ops.size)
    (hdone : ∀ l a w, I l a w → Region.ready md ops l = [] → Q .normal a w)
    (hstep : ∀ l a w i, I l a w → i ∈ Region.ready md ops l → wpOp P ops Q i (I (l.setIfInBounds i true)) a w) :
    ∀ (fuel : Nat) (l : Array Bool) (a : Act) (w : World), I l a w → l.toList.count false ≤ fuel → wpAny P md ops Q fuel l a w := by
  have hin : ∀ l : Array Bool, l.size = ops.size → ∀ i ∈ Region.ready md ops l, l.toList[i]? = some false := by
    intro l hl i hi
    obtain ⟨h1, h2, _⟩ := ready_mem hi
    rw [getD_in (by omega)] at h2
    rw [Array.getElem?_toList, Array.getElem?_eq_getElem (by omega), h2]
  intro fuel
  induction fuel with
  | zero =>
    intro l a w hI hc
    have hr : Region.ready md ops l = [] := by
      rw [List.eq_nil_iff_forall_not_mem]
      intro i hi
      have := hin l (hsz _ _ _ hI) i hi
      have hm : false ∈ l.toList := List.mem_of_getElem? this
      have := List.count_pos_iff.2 hm
      omega
    exact ⟨hr, hdone _ _ _ hI hr⟩
  | succ fuel ih =>
    intro l a w hI hc
    refine ⟨fun hr => hdone _ _ _ hI hr, fun i hi => wpOp_mono (fun a' w' h' => ih _ _ _ h' ?_) (hstep l a w i hI hi)⟩
    have := count_set l.toList i (hin l (hsz _ _ _ hI) i hi)
    rw [Array.toList_setIfInBounds]
    omega
/-- An operation that runs to a value. -/
theorem wpOp_ran {i : Nat} {o : Oper} {K : Act → World → Prop} {a : Act} {w w' : World} {v : Value} (ho : ops[i]? = some o) (hg : o.guard = none)
    (hr : (execOp a.eval o).run P w = .ok (.value v) w') (h : K (a.put o.dst v) w') : wpOp P ops Q i K a w := by
  refine wpOp_step ho (fun K' hK => ?_)
  rw [if_pos (by simp [Region.wanted, hg])]
  unfold Oper.wp
  rw [hr]
  exact hK _ _ h
end

def upd (X : Nat → Value) (t : Nat) (v : Value) : Nat → Value := fun k => if k = t then v else X k
theorem upd_same (X : Nat → Value) (t : Nat) (v : Value) : upd X t v t = v := by simp [upd]
theorem upd_ne (X : Nat → Value) {t k : Nat} (v : Value) (h : k ≠ t) : upd X t v k = X k := by simp [upd, h]

/- What the temporaries of a region may hold. -/
def Str (L : Nat) (ss : List ByteArray) (v : Value) (w : World) : Prop := ∃ A c, v = .slice A ss.length c ∧ SS w L w.heap.size A ss
def Ins (L : Nat) (xs : List Int) (v : Value) (w : World) : Prop := ∃ A c, v = .slice A xs.length c ∧ IS w L w.heap.size A xs
theorem Str.next {L : Nat} {ss : List ByteArray} {v : Value} {w w' : World} (h : Str L ss v w) (hb : Below w.heap.size w w') : Str L ss v w' := by
  obtain ⟨A, c, e, h⟩ := h
  exact ⟨A, c, e, RS.more (RS.below h hb (Nat.le_refl _)) (Nat.le_refl _) hb.size⟩
theorem Ins.next {L : Nat} {xs : List Int} {v : Value} {w w' : World} (h : Ins L xs v w) (hb : Below w.heap.size w w') : Ins L xs v w' := by
  obtain ⟨A, c, e, h⟩ := h
  exact ⟨A, c, e, (h.below hb (Nat.le_refl _)).more (Nat.le_refl _) hb.size⟩
theorem _root_.Go.Proofs.Ytgcbfiamhpfkhaa.IS.short3 {w : World} {L B : Nat} {A : Option Addr} (h : IS w L B A [2, 4, 8, 16, 32]) : IS w L B A [2, 4, 8] := by
  intro _
  obtain ⟨b, o, e, hb, hc⟩ := h (by simp)
  refine ⟨b, o, e, hb, fun i hi => ?_⟩
  have h1 : ([2, 4, 8, 16, 32] : List Int)[i]'(by simp at hi ⊢; omega) = ([2, 4, 8] : List Int)[i] := by
    have : i = 0 ∨ i = 1 ∨ i = 2 := by simp at hi; omega
    rcases this with rfl | rfl | rfl <;> rfl
  rw [← h1]; exact hc i _
/-- A form's cells as they lie. -/
structure Rf where
  num : Int
  o : Value
  btw : ByteArray
  fst : Bool
  q : Value
def Rf.enc (r : Rf) : List Value := [.int .i64 r.num, r.o, .string r.btw, .bool r.fst, r.q]
def Rf.val (r : Rf) : Value := .agg #[.int .i64 r.num, r.o, .string r.btw, .bool r.fst, r.q]
theorem rf5 (r : Rf) : r.enc.length = 5 := rfl
def RfOk (L : Nat) (f : Fo) (r : Rf) (w : World) : Prop := r.num = f.num ∧ r.btw = f.btw ∧ r.fst = f.fst ∧ Str L f.ops r.o w ∧ Ins L f.ws r.q w
theorem RfOk.next {L : Nat} {f : Fo} {r : Rf} {w w' : World} (h : RfOk L f r w) (hb : Below w.heap.size w w') : RfOk L f r w' := ⟨h.1, h.2.1, h.2.2.1, h.2.2.2.1.next hb, h.2.2.2.2.next hb⟩
def Frm (L : Nat) (f : Fo) (v : Value) (w : World) : Prop := ∃ r, v = r.val ∧ RfOk L f r w
theorem Frm.next {L : Nat} {f : Fo} {v : Value} {w w' : World} (h : Frm L f v w) (hb : Below w.heap.size w w') : Frm L f v w' := by
  obtain ⟨r, e, h⟩ := h; exact ⟨r, e, h.next hb⟩
def FormsAt (L : Nat) (w : World) (A : Option Addr) (rs : List Rf) (fs : List Fo) : Prop :=
  RS Rf.enc 5 w L w.heap.size A rs ∧ rs.length = fs.length ∧ ∀ k (h : k < rs.length) (h' : k < fs.length), RfOk L fs[k] rs[k] w
theorem FormsAt.next {L : Nat} {w w' : World} {A : Option Addr} {rs : List Rf} {fs : List Fo} (h : FormsAt L w A rs fs) (hb : Below w.heap.size w w') : FormsAt L w' A rs fs :=
  ⟨(h.1.below hb (Nat.le_refl _)).more (Nat.le_refl _) hb.size, h.2.1, fun k h1 h2 => (h.2.2 k h1 h2).next hb⟩
def Frs (L : Nat) (fs : List Fo) (v : Value) (w : World) : Prop := ∃ A c rs, v = .slice A fs.length c ∧ FormsAt L w A rs fs
theorem Frs.next {L : Nat} {fs : List Fo} {v : Value} {w w' : World} (h : Frs L fs v w) (hb : Below w.heap.size w w') : Frs L fs v w' := by
  obtain ⟨A, c, rs, e, h⟩ := h; exact ⟨A, c, rs, e, h.next hb⟩
theorem Str.lit {L : Nat} {ss : List ByteArray} {w : World} {t : TypeId} {g n c : Nat} (cs : Array Value) (hc : cs = (ss.flatMap encS).toArray) (hg : w.heap.size = g) (hn : n = ss.length) (hL : L ≤ g) :
    Str L ss (.slice (some ⟨g, 0, none⟩) n c) (w.alloc (.cells cs t)) := by
  subst hg; subst hn; subst hc
  exact ⟨_, _, rfl, RS.more (KB.toRS (enc := encS) (k := 1) (fun _ => rfl) (show KB encS t (w.alloc _) w.heap.size ss from heap_alloc_new w _)) hL (by simp)⟩
theorem Ins.lit {L : Nat} {xs : List Int} {w : World} {t : TypeId} {g n c : Nat} (cs : Array Value) (hc : cs = intCells xs) (hg : w.heap.size = g) (hn : n = xs.length) (hL : L ≤ g) :
    Ins L xs (.slice (some ⟨g, 0, none⟩) n c) (w.alloc (.cells cs t)) := by
  subst hg; subst hn; subst hc
  exact ⟨_, _, rfl, (show IB (w.alloc (.cells (intCells xs) t)) w.heap.size t xs from heap_alloc_new w _).toIS.more hL (by simp)⟩
theorem Ins.none_ (L : Nat) (w : World) : Ins L [] (.slice none 0 0) w := ⟨_, _, rfl, fun h => absurd h (by simp)⟩
theorem Frs.lit {L : Nat} {fs : List Fo} {rs : List Rf} {w : World} {t : TypeId} {g n c : Nat} (cs : Array Value) (hc : cs = (rs.flatMap Rf.enc).toArray) (hg : w.heap.size = g) (hn : n = fs.length) (hL : L ≤ g)
    (hl : rs.length = fs.length) (hr : ∀ k (h : k < rs.length) (h' : k < fs.length), RfOk L fs[k] rs[k] w) : Frs L fs (.slice (some ⟨g, 0, none⟩) n c) (w.alloc (.cells cs t)) := by
  subst hg; subst hn; subst hc
  refine ⟨_, _, rs, rfl, RS.more (KB.toRS (enc := Rf.enc) (k := 5) (fun _ => rfl) (show KB Rf.enc t (w.alloc _) w.heap.size rs from heap_alloc_new w _)) hL (by simp), hl, fun k h h' => ?_⟩
  exact (hr k h h').next ((Below.refl w.heap.size w).alloc (Nat.le_refl _) _)
end Go.Proofs.Ytgcbfiamhpfkhaa

/- takingForms of the program: nine rows, in whatever order they are made. -/
namespace Go.Proofs.Ytgcbfiamhpfkhaa
open Go.RowKit
set_option linter.unusedVariables false

def v96a (L : Nat) : Value := .slice (some ⟨L, 0, none⟩) 1 1
def v96m (L : Nat) : Value := .slice (some ⟨L + 1, 0, none⟩) 1 1
def v96p (L : Nat) : Value := .slice (some ⟨L + 1 + 1, 0, none⟩) 5 5
/-- What operation j leaves. -/
def SP96 (L : Nat) (j : Nat) (v : Value) (w : World) : Prop :=
  match j with
  | 0 => Str L [oAdd, oSub, oAnd, oXor] v w
  | 1 => Frm L ⟨4, [oAdd, oSub, oAnd, oXor], oNo, false, []⟩ v w
  | 2 => Str L [oAdd, oAnd, oXor] v w
  | 3 => Frm L ⟨5, [oAdd, oAnd, oXor], oNo, true, []⟩ v w
  | 4 => Str L [oShl, oShr] v w
  | 5 => Ins L [1, 2, 3, 4, 5] v w
  | 6 => Frm L ⟨6, [oShl, oShr], oNo, false, [1, 2, 3, 4, 5]⟩ v w
  | 7 => v = v96m L ∧ Str L [oMul] v w
  | 8 => v = v96p L ∧ Ins L [2, 4, 8, 16, 32] v w
  | 9 => Frm L ⟨7, [oMul], oNo, false, [2, 4, 8, 16, 32]⟩ v w
  | 10 => v = v96m L ∧ Str L [oMul] v w
  | 11 => v = v96p L ∧ Ins L [2, 4, 8, 16, 32] v w
  | 12 => Frm L ⟨8, [oMul], oNo, true, [2, 4, 8, 16, 32]⟩ v w
  | 13 => v = v96a L ∧ Str L [oAdd] v w
  | 14 => Ins L [1, 2, 3] v w
  | 15 => Frm L ⟨9, [oAdd], oShl, false, [1, 2, 3]⟩ v w
  | 16 => v = v96a L ∧ Str L [oAdd] v w
  | 17 => Ins L [1, 2, 3] v w
  | 18 => Frm L ⟨10, [oAdd], oShl, true, [1, 2, 3]⟩ v w
  | 19 => v = v96a L ∧ Str L [oAdd] v w
  | 20 => v = v96p L ∧ Ins L [2, 4, 8, 16, 32] v w
  | 21 => Ins L [2, 4, 8] v w
  | 22 => Frm L ⟨11, [oAdd], oMul, false, [2, 4, 8]⟩ v w
  | 23 => v = v96a L ∧ Str L [oAdd] v w
  | 24 => v = v96p L ∧ Ins L [2, 4, 8, 16, 32] v w
  | 25 => Ins L [2, 4, 8] v w
  | 26 => Frm L ⟨12, [oAdd], oMul, true, [2, 4, 8]⟩ v w
  | _ => Frs L fos v w
theorem SP96.next {L j : Nat} {v : Value} {w w' : World} (h : SP96 L j v w) (hb : Below w.heap.size w w') : SP96 L j v w' := by
  unfold SP96 at h ⊢
  split at h <;> first | exact Str.next h hb | exact Ins.next h hb | exact Frm.next h hb | exact Frs.next h hb | exact ⟨h.1, Str.next h.2 hb⟩ | exact ⟨h.1, Ins.next h.2 hb⟩
def act96 (L : Nat) (X : Nat → Value) : Act := { tmps := (X 0 :: v96a L :: v96m L :: v96p L :: X 4 :: X 5 :: X 6 :: X 7 :: X 8 :: X 9 :: X 10 :: X 11 :: X 12 :: X 13 :: X 14 :: X 15 :: X 16 :: X 17 :: X 18 :: X 19 :: X 20 :: X 21 :: X 22 :: X 23 :: X 24 :: X 25 :: X 26 :: X 27 :: X 28 :: X 29 :: X 30 :: X 31 :: X 32 :: X 33 :: X 34 :: []).toArray, defers := [] }
def Inv96 (w : World) (l : Array Bool) (a : Act) (w' : World) : Prop :=
  l.size = 29 ∧ Below w.heap.size w w' ∧ Str w.heap.size [oAdd] (v96a w.heap.size) w' ∧ Str w.heap.size [oMul] (v96m w.heap.size) w' ∧ Ins w.heap.size [2, 4, 8, 16, 32] (v96p w.heap.size) w' ∧
  ∃ X : Nat → Value, a = act96 w.heap.size X ∧ (∀ j, j < 28 → l.getD j false = true → SP96 w.heap.size j (X (7 + j)) w') ∧ (l.getD 28 false = true → SP96 w.heap.size 27 (X 0) w')
theorem getD_set {l : Array Bool} {i j : Nat} (h : (l.setIfInBounds i true).getD j false = true) : j = i ∨ l.getD j false = true := by
  by_cases hji : j = i
  · exact .inl hji
  · right
    simp only [Array.getD_eq_getD_getElem?] at h ⊢
    rwa [Array.getElem?_setIfInBounds_ne (Ne.symm hji)] at h
theorem Inv96.put {w w1 w2 : World} {l : Array Bool} {X : Nat → Value} (hl : l.size = 29) (hb : Below w.heap.size w w1) (ha : Str w.heap.size [oAdd] (v96a w.heap.size) w1) (hm : Str w.heap.size [oMul] (v96m w.heap.size) w1)
    (hp : Ins w.heap.size [2, 4, 8, 16, 32] (v96p w.heap.size) w1) (hX : ∀ j, j < 28 → l.getD j false = true → SP96 w.heap.size j (X (7 + j)) w1) (hX0 : l.getD 28 false = true → SP96 w.heap.size 27 (X 0) w1)
    (i : Nat) (hi : i < 28) (v : Value) (hb2 : Below w1.heap.size w1 w2) (hv : SP96 w.heap.size i v w2) {a : Act} (ea : a = act96 w.heap.size (upd X (7 + i) v)) : Inv96 w (l.setIfInBounds i true) a w2 := by
  refine ⟨by simp [hl], hb.trans (hb2.mono hb.size), ha.next hb2, hm.next hb2, hp.next hb2, _, ea, fun j hj h => ?_, fun h => ?_⟩
  · by_cases hji : j = i
    · subst hji; rw [upd_same]; exact hv
    · rw [upd_ne _ _ (by omega)]
      exact (hX j hj ((getD_set h).resolve_left hji)).next hb2
  · rw [upd_ne _ _ (by omega)]
    exact (hX0 ((getD_set h).resolve_left (by omega))).next hb2
theorem Inv96.last {w w1 : World} {l : Array Bool} {X : Nat → Value} (hl : l.size = 29) (hb : Below w.heap.size w w1) (ha : Str w.heap.size [oAdd] (v96a w.heap.size) w1) (hm : Str w.heap.size [oMul] (v96m w.heap.size) w1)
    (hp : Ins w.heap.size [2, 4, 8, 16, 32] (v96p w.heap.size) w1) (hX : ∀ j, j < 28 → l.getD j false = true → SP96 w.heap.size j (X (7 + j)) w1)
    (v : Value) (hv : SP96 w.heap.size 27 v w1) {a : Act} (ea : a = act96 w.heap.size (upd X 0 v)) : Inv96 w (l.setIfInBounds 28 true) a w1 := by
  refine ⟨by simp [hl], hb, ha, hm, hp, _, ea, fun j hj h => ?_, fun h => ?_⟩
  · rw [upd_ne _ _ (by omega)]
    exact hX j hj ((getD_set h).resolve_left (by omega))
  · rw [upd_same]; exact hv

/- RUNLEMMAS -/
theorem run96_0 (a : Act) (W : World) (d : Option Tmp) (ty : TypeId) (pos : String) (af : Array Edge) : (execOp a.eval ⟨d, .buildSlice 131 4 #[(0, .const (.string ⟨#[97,100,100]⟩)), (1, .const (.string ⟨#[115,117,98]⟩)), (2, .const (.string ⟨#[97,110,100]⟩)), (3, .const (.string ⟨#[120,111,114]⟩))], ty, pos, af, none⟩).run Try.prog W =
    .ok (.value (.slice (some ⟨W.heap.size, 0, none⟩) 4 4)) (W.alloc (.cells ([oAdd, oSub, oAnd, oXor].flatMap encS).toArray 9)) := by
  go_simp
  rfl
theorem run96_2 (a : Act) (W : World) (d : Option Tmp) (ty : TypeId) (pos : String) (af : Array Edge) : (execOp a.eval ⟨d, .buildSlice 131 3 #[(0, .const (.string ⟨#[97,100,100]⟩)), (1, .const (.string ⟨#[97,110,100]⟩)), (2, .const (.string ⟨#[120,111,114]⟩))], ty, pos, af, none⟩).run Try.prog W =
    .ok (.value (.slice (some ⟨W.heap.size, 0, none⟩) 3 3)) (W.alloc (.cells ([oAdd, oAnd, oXor].flatMap encS).toArray 9)) := by
  go_simp
  rfl
theorem run96_4 (a : Act) (W : World) (d : Option Tmp) (ty : TypeId) (pos : String) (af : Array Edge) : (execOp a.eval ⟨d, .buildSlice 131 2 #[(0, .const (.string ⟨#[115,104,108]⟩)), (1, .const (.string ⟨#[115,104,114]⟩))], ty, pos, af, none⟩).run Try.prog W =
    .ok (.value (.slice (some ⟨W.heap.size, 0, none⟩) 2 2)) (W.alloc (.cells ([oShl, oShr].flatMap encS).toArray 9)) := by
  go_simp
  rfl
theorem run96_5 (a : Act) (W : World) (d : Option Tmp) (ty : TypeId) (pos : String) (af : Array Edge) : (execOp a.eval ⟨d, .buildSlice 23 5 #[(0, .const (.int .i64 1)), (1, .const (.int .i64 2)), (2, .const (.int .i64 3)), (3, .const (.int .i64 4)), (4, .const (.int .i64 5))], ty, pos, af, none⟩).run Try.prog W =
    .ok (.value (.slice (some ⟨W.heap.size, 0, none⟩) 5 5)) (W.alloc (.cells (intCells [1, 2, 3, 4, 5]) 3)) := by
  go_simp
  rfl
theorem run96_14 (a : Act) (W : World) (d : Option Tmp) (ty : TypeId) (pos : String) (af : Array Edge) : (execOp a.eval ⟨d, .buildSlice 23 3 #[(0, .const (.int .i64 1)), (1, .const (.int .i64 2)), (2, .const (.int .i64 3))], ty, pos, af, none⟩).run Try.prog W =
    .ok (.value (.slice (some ⟨W.heap.size, 0, none⟩) 3 3)) (W.alloc (.cells (intCells [1, 2, 3]) 3)) := by
  go_simp
  rfl
theorem run96_17 (a : Act) (W : World) (d : Option Tmp) (ty : TypeId) (pos : String) (af : Array Edge) : (execOp a.eval ⟨d, .buildSlice 23 3 #[(0, .const (.int .i64 1)), (1, .const (.int .i64 2)), (2, .const (.int .i64 3))], ty, pos, af, none⟩).run Try.prog W =
    .ok (.value (.slice (some ⟨W.heap.size, 0, none⟩) 3 3)) (W.alloc (.cells (intCells [1, 2, 3]) 3)) := by
  go_simp
  rfl
theorem run96_1 (a : Act) (W : World) (d : Option Tmp) (ty : TypeId) (pos : String) (af : Array Edge) (A : Option Addr) (n c : Nat) (hx : a.tmps[7]?.getD undef = .slice A n c) : (execOp a.eval ⟨d, .build 133 #[(0, .const (.int .i64 4)), (1, .tmp 7)], ty, pos, af, none⟩).run Try.prog W =
    .ok (.value (.agg #[.int .i64 4, .slice A n c, .string oNo, .bool false, .slice none 0 0])) W := by
  go_simp
  try rfl
theorem run96_3 (a : Act) (W : World) (d : Option Tmp) (ty : TypeId) (pos : String) (af : Array Edge) (A : Option Addr) (n c : Nat) (hx : a.tmps[9]?.getD undef = .slice A n c) : (execOp a.eval ⟨d, .build 133 #[(0, .const (.int .i64 5)), (1, .tmp 9), (3, .const (.bool true))], ty, pos, af, none⟩).run Try.prog W =
    .ok (.value (.agg #[.int .i64 5, .slice A n c, .string oNo, .bool true, .slice none 0 0])) W := by
  go_simp
  try rfl
theorem run96_6 (a : Act) (W : World) (d : Option Tmp) (ty : TypeId) (pos : String) (af : Array Edge) (A : Option Addr) (n c : Nat) (hx : a.tmps[11]?.getD undef = .slice A n c) (B : Option Addr) (m e : Nat) (hy : a.tmps[12]?.getD undef = .slice B m e) : (execOp a.eval ⟨d, .build 133 #[(0, .const (.int .i64 6)), (1, .tmp 11), (4, .tmp 12)], ty, pos, af, none⟩).run Try.prog W =
    .ok (.value (.agg #[.int .i64 6, .slice A n c, .string oNo, .bool false, .slice B m e])) W := by
  go_simp
  try rfl
theorem run96_9 (a : Act) (W : World) (d : Option Tmp) (ty : TypeId) (pos : String) (af : Array Edge) (A : Option Addr) (n c : Nat) (hx : a.tmps[14]?.getD undef = .slice A n c) (B : Option Addr) (m e : Nat) (hy : a.tmps[15]?.getD undef = .slice B m e) : (execOp a.eval ⟨d, .build 133 #[(0, .const (.int .i64 7)), (1, .tmp 14), (4, .tmp 15)], ty, pos, af, none⟩).run Try.prog W =
    .ok (.value (.agg #[.int .i64 7, .slice A n c, .string oNo, .bool false, .slice B m e])) W := by
  go_simp
  try rfl
theorem run96_12 (a : Act) (W : World) (d : Option Tmp) (ty : TypeId) (pos : String) (af : Array Edge) (A : Option Addr) (n c : Nat) (hx : a.tmps[17]?.getD undef = .slice A n c) (B : Option Addr) (m e : Nat) (hy : a.tmps[18]?.getD undef = .slice B m e) : (execOp a.eval ⟨d, .build 133 #[(0, .const (.int .i64 8)), (1, .tmp 17), (4, .tmp 18), (3, .const (.bool true))], ty, pos, af, none⟩).run Try.prog W =
    .ok (.value (.agg #[.int .i64 8, .slice A n c, .string oNo, .bool true, .slice B m e])) W := by
  go_simp
  try rfl
theorem run96_15 (a : Act) (W : World) (d : Option Tmp) (ty : TypeId) (pos : String) (af : Array Edge) (A : Option Addr) (n c : Nat) (hx : a.tmps[20]?.getD undef = .slice A n c) (B : Option Addr) (m e : Nat) (hy : a.tmps[21]?.getD undef = .slice B m e) : (execOp a.eval ⟨d, .build 133 #[(0, .const (.int .i64 9)), (1, .tmp 20), (2, .const (.string ⟨#[115,104,108]⟩)), (4, .tmp 21)], ty, pos, af, none⟩).run Try.prog W =
    .ok (.value (.agg #[.int .i64 9, .slice A n c, .string oShl, .bool false, .slice B m e])) W := by
  go_simp
  try rfl
theorem run96_18 (a : Act) (W : World) (d : Option Tmp) (ty : TypeId) (pos : String) (af : Array Edge) (A : Option Addr) (n c : Nat) (hx : a.tmps[23]?.getD undef = .slice A n c) (B : Option Addr) (m e : Nat) (hy : a.tmps[24]?.getD undef = .slice B m e) : (execOp a.eval ⟨d, .build 133 #[(0, .const (.int .i64 10)), (1, .tmp 23), (2, .const (.string ⟨#[115,104,108]⟩)), (4, .tmp 24), (3, .const (.bool true))], ty, pos, af, none⟩).run Try.prog W =
    .ok (.value (.agg #[.int .i64 10, .slice A n c, .string oShl, .bool true, .slice B m e])) W := by
  go_simp
  try rfl
theorem run96_22 (a : Act) (W : World) (d : Option Tmp) (ty : TypeId) (pos : String) (af : Array Edge) (A : Option Addr) (n c : Nat) (hx : a.tmps[26]?.getD undef = .slice A n c) (B : Option Addr) (m e : Nat) (hy : a.tmps[28]?.getD undef = .slice B m e) : (execOp a.eval ⟨d, .build 133 #[(0, .const (.int .i64 11)), (1, .tmp 26), (2, .const (.string ⟨#[109,117,108]⟩)), (4, .tmp 28)], ty, pos, af, none⟩).run Try.prog W =
    .ok (.value (.agg #[.int .i64 11, .slice A n c, .string oMul, .bool false, .slice B m e])) W := by
  go_simp
  try rfl
theorem run96_26 (a : Act) (W : World) (d : Option Tmp) (ty : TypeId) (pos : String) (af : Array Edge) (A : Option Addr) (n c : Nat) (hx : a.tmps[30]?.getD undef = .slice A n c) (B : Option Addr) (m e : Nat) (hy : a.tmps[32]?.getD undef = .slice B m e) : (execOp a.eval ⟨d, .build 133 #[(0, .const (.int .i64 12)), (1, .tmp 30), (2, .const (.string ⟨#[109,117,108]⟩)), (4, .tmp 32), (3, .const (.bool true))], ty, pos, af, none⟩).run Try.prog W =
    .ok (.value (.agg #[.int .i64 12, .slice A n c, .string oMul, .bool true, .slice B m e])) W := by
  go_simp
  try rfl
theorem run96_21 (a : Act) (W : World) (d : Option Tmp) (ty : TypeId) (pos : String) (af : Array Edge) (g : Nat) (hx : a.tmps[27]?.getD undef = .slice (some ⟨g, 0, none⟩) 5 5) : (execOp a.eval ⟨d, .slice 23 (.tmp 27) none (some (.const (.int .i64 3))) none, ty, pos, af, none⟩).run Try.prog W =
    .ok (.value (.slice (some ⟨g, 0, none⟩) 3 5)) W := by
  go_simp
  try rfl
theorem run96_25 (a : Act) (W : World) (d : Option Tmp) (ty : TypeId) (pos : String) (af : Array Edge) (g : Nat) (hx : a.tmps[31]?.getD undef = .slice (some ⟨g, 0, none⟩) 5 5) : (execOp a.eval ⟨d, .slice 23 (.tmp 31) none (some (.const (.int .i64 3))) none, ty, pos, af, none⟩).run Try.prog W =
    .ok (.value (.slice (some ⟨g, 0, none⟩) 3 5)) W := by
  go_simp
  try rfl
theorem run96_27 (a : Act) (W : World) (d : Option Tmp) (ty : TypeId) (pos : String) (af : Array Edge) (r1 : Rf) (r3 : Rf) (r6 : Rf) (r9 : Rf) (r12 : Rf) (r15 : Rf) (r18 : Rf) (r22 : Rf) (r26 : Rf) (h1 : a.tmps[8]?.getD undef = r1.val) (h3 : a.tmps[10]?.getD undef = r3.val) (h6 : a.tmps[13]?.getD undef = r6.val) (h9 : a.tmps[16]?.getD undef = r9.val) (h12 : a.tmps[19]?.getD undef = r12.val) (h15 : a.tmps[22]?.getD undef = r15.val) (h18 : a.tmps[25]?.getD undef = r18.val) (h22 : a.tmps[29]?.getD undef = r22.val) (h26 : a.tmps[33]?.getD undef = r26.val) : (execOp a.eval ⟨d, .buildSlice 129 9 #[(0, .tmp 8), (1, .tmp 10), (2, .tmp 13), (3, .tmp 16), (4, .tmp 19), (5, .tmp 22), (6, .tmp 25), (7, .tmp 29), (8, .tmp 33)], ty, pos, af, none⟩).run Try.prog W =
    .ok (.value (.slice (some ⟨W.heap.size, 0, none⟩) 9 9)) (W.alloc (.cells ([r1, r3, r6, r9, r12, r15, r18, r22, r26].flatMap Rf.enc).toArray 133)) := by
  unfold Rf.val at *
  go_simp
  try rfl
set_option maxHeartbeats 4000000 in
set_option maxRecDepth 10000 in
theorem takingForms_any (w : World) : Calls Try.prog 117 #[] w fun e w' => Below w.heap.size w w' ∧ ∃ v, e = .returned v ∧ Frs w.heap.size fos v w' := by
  go_enter Try.func117, Try.ntmps117
  go_wp2
  rename_i Q1 K1 hK1
  refine wp_region_any (by kernel_rfl) ?_
  refine wpAny_inv (Inv96 w) (by intro l a w h; exact h.1) ?_ ?_ _ _ _ _ ?_ (by decide)
  · intro l a w' h hr
    have hall := all_listed (by kernel_rfl) h.1 hr
    obtain ⟨hl, hb, ha, hm, hp, X, rfl, hX, hX0⟩ := h
    have h27 := Lib.hid (hX0 (hall 28 (by decide)))
    have hB := Lib.hid hb
    clear hX hX0 hall ha hm hp hb hr hl
    dsimp only [act96]
    simp only [Exit.then]
    refine hK1 _ _ ?_
    go_wp2
    go_ret
    exact ⟨hB.out, _, rfl, h27.out⟩
  · intro l a w1 i h hi
    obtain ⟨hlt, _, hdep⟩ := ready_mem hi
    obtain ⟨hl, hb, ha, hm, hp, X, rfl, hX, hX0⟩ := h
    clear hi
    have hal := fun o => (Below.refl w1.heap.size w1).alloc (Nat.le_refl _) o
    have hrf := Below.refl w1.heap.size w1
    have hW := Lib.hid hb.size
    match i, hlt with
    | 0, _ => as_aux_lemma =>
      clear hdep
      exact wpOp_ran rfl rfl (run96_0 (act96 w.heap.size X) _ _ _ _ _) (Inv96.put hl hb ha hm hp hX hX0 0 (by omega) _ (hal _) (Str.lit _ rfl rfl rfl hW.out) rfl)
    | 1, _ => as_aux_lemma =>
      have hd := hdep _ rfl
      simp [Region.binds] at hd
      have d0 := hd
      have s0 := hX 0 (by omega) (by simpa using d0)
      simp only [Nat.reduceAdd] at s0
      clear hdep
      obtain ⟨A0, c0, e0, s0⟩ := s0
      exact wpOp_ran rfl rfl (run96_1 (act96 w.heap.size X) _ _ _ _ _ _ _ _ e0) (Inv96.put hl hb ha hm hp hX hX0 1 (by omega) _ hrf ⟨⟨_, _, _, _, _⟩, rfl, rfl, rfl, rfl, ⟨_, _, rfl, s0⟩, Ins.none_ _ _⟩ rfl)
    | 2, _ => as_aux_lemma =>
      clear hdep
      exact wpOp_ran rfl rfl (run96_2 (act96 w.heap.size X) _ _ _ _ _) (Inv96.put hl hb ha hm hp hX hX0 2 (by omega) _ (hal _) (Str.lit _ rfl rfl rfl hW.out) rfl)
    | 3, _ => as_aux_lemma =>
      have hd := hdep _ rfl
      simp [Region.binds] at hd
      have d2 := hd
      have s2 := hX 2 (by omega) (by simpa using d2)
      simp only [Nat.reduceAdd] at s2
      clear hdep
      obtain ⟨A2, c2, e2, s2⟩ := s2
      exact wpOp_ran rfl rfl (run96_3 (act96 w.heap.size X) _ _ _ _ _ _ _ _ e2) (Inv96.put hl hb ha hm hp hX hX0 3 (by omega) _ hrf ⟨⟨_, _, _, _, _⟩, rfl, rfl, rfl, rfl, ⟨_, _, rfl, s2⟩, Ins.none_ _ _⟩ rfl)
    | 4, _ => as_aux_lemma =>
      clear hdep
      exact wpOp_ran rfl rfl (run96_4 (act96 w.heap.size X) _ _ _ _ _) (Inv96.put hl hb ha hm hp hX hX0 4 (by omega) _ (hal _) (Str.lit _ rfl rfl rfl hW.out) rfl)
    | 5, _ => as_aux_lemma =>
      clear hdep
      exact wpOp_ran rfl rfl (run96_5 (act96 w.heap.size X) _ _ _ _ _) (Inv96.put hl hb ha hm hp hX hX0 5 (by omega) _ (hal _) (Ins.lit _ rfl rfl rfl hW.out) rfl)
    | 6, _ => as_aux_lemma =>
      have hd := hdep _ rfl
      simp [Region.binds] at hd
      obtain ⟨d4, d5⟩ := hd
      have s4 := hX 4 (by omega) (by simpa using d4)
      simp only [Nat.reduceAdd] at s4
      have s5 := hX 5 (by omega) (by simpa using d5)
      simp only [Nat.reduceAdd] at s5
      clear hdep
      obtain ⟨A4, c4, e4, s4⟩ := s4
      obtain ⟨A5, c5, e5, s5⟩ := s5
      exact wpOp_ran rfl rfl (run96_6 (act96 w.heap.size X) _ _ _ _ _ _ _ _ e4 _ _ _ e5) (Inv96.put hl hb ha hm hp hX hX0 6 (by omega) _ hrf ⟨⟨_, _, _, _, _⟩, rfl, rfl, rfl, rfl, ⟨_, _, rfl, s4⟩, ⟨_, _, rfl, s5⟩⟩ rfl)
    | 7, _ => as_aux_lemma =>
      clear hdep
      exact wpOp_ran rfl rfl rfl (Inv96.put hl hb ha hm hp hX hX0 7 (by omega) _ hrf ⟨rfl, hm⟩ rfl)
    | 8, _ => as_aux_lemma =>
      clear hdep
      exact wpOp_ran rfl rfl rfl (Inv96.put hl hb ha hm hp hX hX0 8 (by omega) _ hrf ⟨rfl, hp⟩ rfl)
    | 9, _ => as_aux_lemma =>
      have hd := hdep _ rfl
      simp [Region.binds] at hd
      obtain ⟨d7, d8⟩ := hd
      have s7 := hX 7 (by omega) (by simpa using d7)
      simp only [Nat.reduceAdd] at s7
      have s8 := hX 8 (by omega) (by simpa using d8)
      simp only [Nat.reduceAdd] at s8
      clear hdep
      obtain ⟨e7, s7⟩ := s7
      obtain ⟨e8, s8⟩ := s8
      exact wpOp_ran rfl rfl (run96_9 (act96 w.heap.size X) _ _ _ _ _ _ _ _ e7 _ _ _ e8) (Inv96.put hl hb ha hm hp hX hX0 9 (by omega) _ hrf ⟨⟨_, _, _, _, _⟩, rfl, rfl, rfl, rfl, ⟨_, _, rfl, (by obtain ⟨A, c, ee, hh⟩ := hm; unfold v96m at ee; injection ee with e1 e2 e3; subst e1; exact hh)⟩, ⟨_, _, rfl, (by obtain ⟨A, c, ee, hh⟩ := hp; unfold v96p at ee; injection ee with e1 e2 e3; subst e1; exact hh)⟩⟩ rfl)
    | 10, _ => as_aux_lemma =>
      clear hdep
      exact wpOp_ran rfl rfl rfl (Inv96.put hl hb ha hm hp hX hX0 10 (by omega) _ hrf ⟨rfl, hm⟩ rfl)
    | 11, _ => as_aux_lemma =>
      clear hdep
      exact wpOp_ran rfl rfl rfl (Inv96.put hl hb ha hm hp hX hX0 11 (by omega) _ hrf ⟨rfl, hp⟩ rfl)
    | 12, _ => as_aux_lemma =>
      have hd := hdep _ rfl
      simp [Region.binds] at hd
      obtain ⟨d10, d11⟩ := hd
      have s10 := hX 10 (by omega) (by simpa using d10)
      simp only [Nat.reduceAdd] at s10
      have s11 := hX 11 (by omega) (by simpa using d11)
      simp only [Nat.reduceAdd] at s11
      clear hdep
      obtain ⟨e10, s10⟩ := s10
      obtain ⟨e11, s11⟩ := s11
      exact wpOp_ran rfl rfl (run96_12 (act96 w.heap.size X) _ _ _ _ _ _ _ _ e10 _ _ _ e11) (Inv96.put hl hb ha hm hp hX hX0 12 (by omega) _ hrf ⟨⟨_, _, _, _, _⟩, rfl, rfl, rfl, rfl, ⟨_, _, rfl, (by obtain ⟨A, c, ee, hh⟩ := hm; unfold v96m at ee; injection ee with e1 e2 e3; subst e1; exact hh)⟩, ⟨_, _, rfl, (by obtain ⟨A, c, ee, hh⟩ := hp; unfold v96p at ee; injection ee with e1 e2 e3; subst e1; exact hh)⟩⟩ rfl)
    | 13, _ => as_aux_lemma =>
      clear hdep
      exact wpOp_ran rfl rfl rfl (Inv96.put hl hb ha hm hp hX hX0 13 (by omega) _ hrf ⟨rfl, ha⟩ rfl)
    | 14, _ => as_aux_lemma =>
      clear hdep
      exact wpOp_ran rfl rfl (run96_14 (act96 w.heap.size X) _ _ _ _ _) (Inv96.put hl hb ha hm hp hX hX0 14 (by omega) _ (hal _) (Ins.lit _ rfl rfl rfl hW.out) rfl)
    | 15, _ => as_aux_lemma =>
      have hd := hdep _ rfl
      simp [Region.binds] at hd
      obtain ⟨d13, d14⟩ := hd
      have s13 := hX 13 (by omega) (by simpa using d13)
      simp only [Nat.reduceAdd] at s13
      have s14 := hX 14 (by omega) (by simpa using d14)
      simp only [Nat.reduceAdd] at s14
      clear hdep
      obtain ⟨e13, s13⟩ := s13
      obtain ⟨A14, c14, e14, s14⟩ := s14
      exact wpOp_ran rfl rfl (run96_15 (act96 w.heap.size X) _ _ _ _ _ _ _ _ e13 _ _ _ e14) (Inv96.put hl hb ha hm hp hX hX0 15 (by omega) _ hrf ⟨⟨_, _, _, _, _⟩, rfl, rfl, rfl, rfl, ⟨_, _, rfl, (by obtain ⟨A, c, ee, hh⟩ := ha; unfold v96a at ee; injection ee with e1 e2 e3; subst e1; exact hh)⟩, ⟨_, _, rfl, s14⟩⟩ rfl)
    | 16, _ => as_aux_lemma =>
      clear hdep
      exact wpOp_ran rfl rfl rfl (Inv96.put hl hb ha hm hp hX hX0 16 (by omega) _ hrf ⟨rfl, ha⟩ rfl)
    | 17, _ => as_aux_lemma =>
      clear hdep
      exact wpOp_ran rfl rfl (run96_17 (act96 w.heap.size X) _ _ _ _ _) (Inv96.put hl hb ha hm hp hX hX0 17 (by omega) _ (hal _) (Ins.lit _ rfl rfl rfl hW.out) rfl)
    | 18, _ => as_aux_lemma =>
      have hd := hdep _ rfl
      simp [Region.binds] at hd
      obtain ⟨d16, d17⟩ := hd
      have s16 := hX 16 (by omega) (by simpa using d16)
      simp only [Nat.reduceAdd] at s16
      have s17 := hX 17 (by omega) (by simpa using d17)
      simp only [Nat.reduceAdd] at s17
      clear hdep
      obtain ⟨e16, s16⟩ := s16
      obtain ⟨A17, c17, e17, s17⟩ := s17
      exact wpOp_ran rfl rfl (run96_18 (act96 w.heap.size X) _ _ _ _ _ _ _ _ e16 _ _ _ e17) (Inv96.put hl hb ha hm hp hX hX0 18 (by omega) _ hrf ⟨⟨_, _, _, _, _⟩, rfl, rfl, rfl, rfl, ⟨_, _, rfl, (by obtain ⟨A, c, ee, hh⟩ := ha; unfold v96a at ee; injection ee with e1 e2 e3; subst e1; exact hh)⟩, ⟨_, _, rfl, s17⟩⟩ rfl)
    | 19, _ => as_aux_lemma =>
      clear hdep
      exact wpOp_ran rfl rfl rfl (Inv96.put hl hb ha hm hp hX hX0 19 (by omega) _ hrf ⟨rfl, ha⟩ rfl)
    | 20, _ => as_aux_lemma =>
      clear hdep
      exact wpOp_ran rfl rfl rfl (Inv96.put hl hb ha hm hp hX hX0 20 (by omega) _ hrf ⟨rfl, hp⟩ rfl)
    | 21, _ => as_aux_lemma =>
      have hd := hdep _ rfl
      simp [Region.binds] at hd
      have d20 := hd
      have s20 := hX 20 (by omega) (by simpa using d20)
      simp only [Nat.reduceAdd] at s20
      clear hdep
      obtain ⟨e20, s20⟩ := s20
      exact wpOp_ran rfl rfl (run96_21 (act96 w.heap.size X) _ _ _ _ _ _ e20) (Inv96.put hl hb ha hm hp hX hX0 21 (by omega) _ hrf (by obtain ⟨A, c, ee, hh⟩ := hp; unfold v96p at ee; injection ee with e1 e2 e3; subst e1; exact ⟨_, _, rfl, hh.short3⟩) rfl)
    | 22, _ => as_aux_lemma =>
      have hd := hdep _ rfl
      simp [Region.binds] at hd
      obtain ⟨d19, d21⟩ := hd
      have s19 := hX 19 (by omega) (by simpa using d19)
      simp only [Nat.reduceAdd] at s19
      have s21 := hX 21 (by omega) (by simpa using d21)
      simp only [Nat.reduceAdd] at s21
      clear hdep
      obtain ⟨e19, s19⟩ := s19
      obtain ⟨A21, c21, e21, s21⟩ := s21
      exact wpOp_ran rfl rfl (run96_22 (act96 w.heap.size X) _ _ _ _ _ _ _ _ e19 _ _ _ e21) (Inv96.put hl hb ha hm hp hX hX0 22 (by omega) _ hrf ⟨⟨_, _, _, _, _⟩, rfl, rfl, rfl, rfl, ⟨_, _, rfl, (by obtain ⟨A, c, ee, hh⟩ := ha; unfold v96a at ee; injection ee with e1 e2 e3; subst e1; exact hh)⟩, ⟨_, _, rfl, s21⟩⟩ rfl)
    | 23, _ => as_aux_lemma =>
      clear hdep
      exact wpOp_ran rfl rfl rfl (Inv96.put hl hb ha hm hp hX hX0 23 (by omega) _ hrf ⟨rfl, ha⟩ rfl)
    | 24, _ => as_aux_lemma =>
      clear hdep
      exact wpOp_ran rfl rfl rfl (Inv96.put hl hb ha hm hp hX hX0 24 (by omega) _ hrf ⟨rfl, hp⟩ rfl)
    | 25, _ => as_aux_lemma =>
      have hd := hdep _ rfl
      simp [Region.binds] at hd
      have d24 := hd
      have s24 := hX 24 (by omega) (by simpa using d24)
      simp only [Nat.reduceAdd] at s24
      clear hdep
      obtain ⟨e24, s24⟩ := s24
      exact wpOp_ran rfl rfl (run96_25 (act96 w.heap.size X) _ _ _ _ _ _ e24) (Inv96.put hl hb ha hm hp hX hX0 25 (by omega) _ hrf (by obtain ⟨A, c, ee, hh⟩ := hp; unfold v96p at ee; injection ee with e1 e2 e3; subst e1; exact ⟨_, _, rfl, hh.short3⟩) rfl)
    | 26, _ => as_aux_lemma =>
      have hd := hdep _ rfl
      simp [Region.binds] at hd
      obtain ⟨d23, d25⟩ := hd
      have s23 := hX 23 (by omega) (by simpa using d23)
      simp only [Nat.reduceAdd] at s23
      have s25 := hX 25 (by omega) (by simpa using d25)
      simp only [Nat.reduceAdd] at s25
      clear hdep
      obtain ⟨e23, s23⟩ := s23
      obtain ⟨A25, c25, e25, s25⟩ := s25
      exact wpOp_ran rfl rfl (run96_26 (act96 w.heap.size X) _ _ _ _ _ _ _ _ e23 _ _ _ e25) (Inv96.put hl hb ha hm hp hX hX0 26 (by omega) _ hrf ⟨⟨_, _, _, _, _⟩, rfl, rfl, rfl, rfl, ⟨_, _, rfl, (by obtain ⟨A, c, ee, hh⟩ := ha; unfold v96a at ee; injection ee with e1 e2 e3; subst e1; exact hh)⟩, ⟨_, _, rfl, s25⟩⟩ rfl)
    | 27, _ => as_aux_lemma =>
      have hd := hdep _ rfl
      simp [Region.binds] at hd
      obtain ⟨d1, d3, d6, d9, d12, d15, d18, d22, d26⟩ := hd
      have s1 := hX 1 (by omega) (by simpa using d1)
      simp only [Nat.reduceAdd] at s1
      have s3 := hX 3 (by omega) (by simpa using d3)
      simp only [Nat.reduceAdd] at s3
      have s6 := hX 6 (by omega) (by simpa using d6)
      simp only [Nat.reduceAdd] at s6
      have s9 := hX 9 (by omega) (by simpa using d9)
      simp only [Nat.reduceAdd] at s9
      have s12 := hX 12 (by omega) (by simpa using d12)
      simp only [Nat.reduceAdd] at s12
      have s15 := hX 15 (by omega) (by simpa using d15)
      simp only [Nat.reduceAdd] at s15
      have s18 := hX 18 (by omega) (by simpa using d18)
      simp only [Nat.reduceAdd] at s18
      have s22 := hX 22 (by omega) (by simpa using d22)
      simp only [Nat.reduceAdd] at s22
      have s26 := hX 26 (by omega) (by simpa using d26)
      simp only [Nat.reduceAdd] at s26
      clear hdep
      obtain ⟨r1, e1, s1⟩ := s1
      obtain ⟨r3, e3, s3⟩ := s3
      obtain ⟨r6, e6, s6⟩ := s6
      obtain ⟨r9, e9, s9⟩ := s9
      obtain ⟨r12, e12, s12⟩ := s12
      obtain ⟨r15, e15, s15⟩ := s15
      obtain ⟨r18, e18, s18⟩ := s18
      obtain ⟨r22, e22, s22⟩ := s22
      obtain ⟨r26, e26, s26⟩ := s26
      exact wpOp_ran rfl rfl (run96_27 (act96 w.heap.size X) _ _ _ _ _ r1 r3 r6 r9 r12 r15 r18 r22 r26 e1 e3 e6 e9 e12 e15 e18 e22 e26) (Inv96.put hl hb ha hm hp hX hX0 27 (by omega) _ (hal _) (Frs.lit (rs := [r1, r3, r6, r9, r12, r15, r18, r22, r26]) _ rfl rfl rfl hW.out rfl (by intro k h h'; match k, h with | 0, _ => exact s1 | 1, _ => exact s3 | 2, _ => exact s6 | 3, _ => exact s9 | 4, _ => exact s12 | 5, _ => exact s15 | 6, _ => exact s18 | 7, _ => exact s22 | 8, _ => exact s26)) rfl)
    | 28, _ => as_aux_lemma =>
      have hd := hdep _ rfl
      simp [Region.binds] at hd
      obtain ⟨d27, _⟩ := hd
      have s27 := hX 27 (by omega) (by simpa using d27)
      simp only [Nat.reduceAdd] at s27
      clear hdep
      exact wpOp_ran (v := X 34) (w' := w1) rfl rfl rfl (Inv96.last hl hb ha hm hp hX _ s27 rfl)
    | n + 29, h => exact absurd h (by simp)
  · have b1 := (Below.refl w.heap.size w).alloc (Nat.le_refl _) (.cells #[.string oAdd] 9)
    have b2 := b1.alloc b1.size (.cells #[.string oMul] 9)
    have b3 := b2.alloc b2.size (.cells (intCells [2, 4, 8, 16, 32]) 3)
    have s1 : Str w.heap.size [oAdd] (v96a w.heap.size) (w.alloc (.cells #[.string oAdd] 9)) := Str.lit _ rfl rfl rfl (Nat.le_refl _)
    have s2 : Str w.heap.size [oMul] (v96m w.heap.size) ((w.alloc (.cells #[.string oAdd] 9)).alloc (.cells #[.string oMul] 9)) := Str.lit _ rfl (by simp) rfl (by omega)
    have s3 : Ins w.heap.size [2, 4, 8, 16, 32] (v96p w.heap.size) (((w.alloc (.cells #[.string oAdd] 9)).alloc (.cells #[.string oMul] 9)).alloc (.cells (intCells [2, 4, 8, 16, 32]) 3)) := Ins.lit _ rfl (by simp) rfl (by omega)
    have n1 := fun (W : World) o => (Below.refl W.heap.size W).alloc (Nat.le_refl _) o
    refine ⟨rfl, b3.drew, (((s1.next (n1 _ _)).next (n1 _ _)).next (Below.refl _ _).drew), ((s2.next (n1 _ _)).next (Below.refl _ _).drew), s3.next (Below.refl _ _).drew,
      fun k => (#[Value.slice none 0 0, undef, undef, undef, v96a w.heap.size, v96m w.heap.size, v96p w.heap.size] : Array Value).getD k undef, rfl, ?_, ?_⟩
    · intro j hj h
      have : ∀ j, j < 28 → ((Array.replicate 29 false).getD j false) = false := by decide
      exact absurd ((this j hj).symm.trans h) (by simp)
    · intro h; exact absurd h (by decide)
end Go.Proofs.Ytgcbfiamhpfkhaa

/- takes, plainTile of the program. -/
namespace Go.Proofs.Ytgcbfiamhpfkhaa
open Go.RowKit
set_option linter.unusedVariables false

set_option maxHeartbeats 4000000 in
theorem takes_any (L : Nat) (f : Fo) (num : Int) (o : Value) (btw : ByteArray) (fst : Bool) (q : Value) (s : ByteArray) (a b v : Int) (w : World) (hr : Ins L f.ws q w) (hl : f.ws.length ≤ 5) :
    Calls Try.prog 162 #[.agg #[.int .i64 num, o, .string btw, .bool fst, q], .agg #[.string s, .int .i64 a, .int .i64 b, .int .i64 v]] w fun e w' => e = .returned (.bool (takes f ⟨s, a, b, v⟩)) ∧ Below w.heap.size w w' := by
  obtain ⟨QA, qc, rfl, hq⟩ := hr
  have hB2 := fun o o' => ((Below.refl w.heap.size w).alloc (Nat.le_refl _) o).alloc (by simp) o'
  have hI := fun o o' => Lib.hid (hq.below (hB2 o o') (Nat.le_refl _))
  have HB := Lib.hid hB2
  clear hB2 hq
  have hT : Hid (takes f ⟨s, a, b, v⟩ = ((s.toList == [99,111,110,115,116]) && (f.ws.length == 0 || hasI f.ws v))) := rfl
  cases hc : (s.toList == [99,111,110,115,116])
  · rw [hc] at hT
    go_enter Try.func162, Try.ntmps162
    go_wp2
    go_ret
    exact ⟨ret_bool (by rw [hT.out]; rfl), HB.out _ _⟩
  · rw [hc] at hT
    cases hz : (f.ws.length == 0)
    · rw [hz] at hT
      have hne : ¬ f.ws = [] := by simpa using hz
      go_enter Try.func162, Try.ntmps162
      go_wp2_with (go_at_call 157; refine (Contains_eq L _ QA _ qc f.ws v _ rfl (by omega) (hI _ _).out).mono ?_; rintro e w' ⟨rfl, rfl⟩)
      go_ret
      exact ⟨ret_bool (by rw [hT.out]; simp [hne]), HB.out _ _⟩
    · rw [hz] at hT
      have hne : f.ws = [] := by simpa using hz
      go_enter Try.func162, Try.ntmps162
      go_wp2
      go_ret
      exact ⟨ret_bool (by rw [hT.out]; rfl), HB.out _ _⟩

theorem own_lit {w : World} {g L B : Nat} {cs : Array Value} (xs : List Int) (hc : cs = intCells xs) (hg : w.heap.size = g) (hl : xs.length ≤ 1000) (hL : L ≤ g) (hB : g < B) : OW (w.alloc (.cells cs 3)) L B (.slice (some ⟨g, 0, none⟩) xs.length xs.length) xs := by
  subst hg; subst hc
  exact OW.ofIB (show IB (w.alloc (.cells (intCells xs) 3)) w.heap.size 3 xs from heap_alloc_new w _) (by omega) hL hB
theorem operandsOf_own (s : ByteArray) (a b v : Int) (w : World) :
    Calls Try.prog 158 #[.agg #[.string s, .int .i64 a, .int .i64 b, .int .i64 v]] w fun e w' =>
      ∃ A c, e = .returned (.slice A (parts ⟨s, a, b, v⟩).length c) ∧ OW w' w.heap.size w'.heap.size (.slice A (parts ⟨s, a, b, v⟩).length c) (parts ⟨s, a, b, v⟩) ∧ Below w.heap.size w w' := by
  have hB1 := fun o => (Below.refl w.heap.size w).alloc (Nat.le_refl _) o
  have hB2 := fun o o' => (hB1 o).alloc (by simp) o'
  rcases ar_cases s with ⟨har, h3, h4⟩|⟨har, h3, h4⟩|⟨har, h3, h4⟩|⟨har, h3, h4⟩
  · have hr : parts ⟨s, a, b, v⟩ = [] := by simp [parts, h3, h4]
    rw [hr]
    clear hr
    go_enter Try.func158, Try.ntmps158
    go_wp2_with (first | (go_at_call 183; refine (operandCount_any _ _).mono ?_; rintro e w' ⟨rfl, rfl⟩))
    go_ret
    exact ⟨_, _, rfl, OW.nil _ _ _, hB1 _⟩
  · have hr : parts ⟨s, a, b, v⟩ = [a] := by simp [parts, h3]
    rw [hr]
    clear hr
    go_enter Try.func158, Try.ntmps158
    go_wp2_with (first | (go_at_call 183; refine (operandCount_any _ _).mono ?_; rintro e w' ⟨rfl, rfl⟩))
    go_ret
    refine ⟨_, _, rfl, ?_, hB2 _ _⟩
    exact own_lit [a] rfl (by simp) (by simp) (by simp) (by simp)
  · have hr : parts ⟨s, a, b, v⟩ = [a, b] := by simp [parts, h3, h4]
    rw [hr]
    clear hr
    go_enter Try.func158, Try.ntmps158
    go_wp2_with (first | (go_at_call 183; refine (operandCount_any _ _).mono ?_; rintro e w' ⟨rfl, rfl⟩))
    go_ret
    refine ⟨_, _, rfl, ?_, hB2 _ _⟩
    exact own_lit [a, b] rfl (by simp) (by simp) (by simp) (by simp)
  · have hr : parts ⟨s, a, b, v⟩ = [] := by simp [parts, h3, h4]
    rw [hr]
    clear hr
    go_enter Try.func158, Try.ntmps158
    go_wp2_with (first | (go_at_call 183; refine (operandCount_any _ _).mono ?_; rintro e w' ⟨rfl, rfl⟩))
    go_ret
    exact ⟨_, _, rfl, OW.nil _ _ _, hB1 _⟩

/- A tile in a box. -/
def TX (w : World) (g : Nat) (r : Rt) : Prop := CB 77 w g r.enc
def put4t (w : World) (g : Nat) (r : Rt) : World := (((w.setCell ⟨g, 0, none⟩ (.int .i64 r.num)).setCell ⟨g, 1, none⟩ r.p).setCell ⟨g, 2, none⟩ r.q).setCell ⟨g, 3, none⟩ (.int .i64 r.c)
def zeroRt : Rt := ⟨0, .slice none 0 0, .slice none 0 0, 0⟩
theorem TX.put {w : World} {g : Nat} {r0 : Rt} (h : TX w g r0) (r : Rt) : TX (put4t w g r) g r := (((CB.set h 0 _).set 1 _).set 2 _).set 3 _
theorem below_put4t {B : Nat} {w w' : World} {g : Nat} (h : Below B w w') (hg : B ≤ g) (r : Rt) : Below B w (put4t w' g r) :=
  (((h.setCell (p := ⟨g, 0, none⟩) hg _).setCell (p := ⟨g, 1, none⟩) hg _).setCell (p := ⟨g, 2, none⟩) hg _).setCell (p := ⟨g, 3, none⟩) hg _
theorem TX.cells {w : World} {g : Nat} {r : Rt} (h : TX w g r) : w.cell? ⟨g, 0, none⟩ = some (.int .i64 r.num) ∧ w.cell? ⟨g, 1, none⟩ = some r.p ∧ w.cell? ⟨g, 2, none⟩ = some r.q ∧ w.cell? ⟨g, 3, none⟩ = some (.int .i64 r.c) :=
  ⟨CB.cell h 0, CB.cell h 1, CB.cell h 2, CB.cell h 3⟩
theorem TX.fz {w : World} {g : Nat} {r : Rt} (h : TX w g r) : w.frozen? ⟨g, 0, none⟩ = false ∧ w.frozen? ⟨g, 1, none⟩ = false ∧ w.frozen? ⟨g, 2, none⟩ = false ∧ w.frozen? ⟨g, 3, none⟩ = false :=
  ⟨CB.frozen h 0, CB.frozen h 1, CB.frozen h 2, CB.frozen h 3⟩
theorem TX.new {w : World} {g : Nat} (r : Rt) (hg : w.heap.size = g) : TX (w.alloc (.cells #[.int .i64 r.num, r.p, r.q, .int .i64 r.c] 77)) g r := by subst hg; exact heap_alloc_new w _
theorem size_put4t (w : World) (g : Nat) (r : Rt) : (put4t w g r).heap.size = w.heap.size := by simp [put4t]
theorem chg_put4t (w : World) (g : Nat) (r : Rt) : Chg g (g + 1) w (put4t w g r) :=
  ((((Chg.refl g (g + 1) w).setCell (p := ⟨g, 0, none⟩) ⟨Nat.le_refl _, Nat.lt_succ_self _⟩ _).setCell (p := ⟨g, 1, none⟩) ⟨Nat.le_refl _, Nat.lt_succ_self _⟩ _).setCell (p := ⟨g, 2, none⟩) ⟨Nat.le_refl _, Nat.lt_succ_self _⟩ _).setCell (p := ⟨g, 3, none⟩) ⟨Nat.le_refl _, Nat.lt_succ_self _⟩ _
theorem OW.put4t {w : World} {lo hi g : Nat} {v : Value} {xs : List Int} (h : OW w lo hi v xs) (hg : g < lo) (r : Rt) : OW (put4t w g r) lo hi v xs := h.chg (chg_put4t w g r) (.inr hg)
theorem RtOk.put4t {w : World} {lo hi g : Nat} {r : Rt} {t : Ti} (h : RtOk w lo hi r t) (hg : g < lo) (r' : Rt) : RtOk (put4t w g r') lo hi r t := ⟨h.1, h.2.1, h.2.2.1.put4t hg _, h.2.2.2.put4t hg _⟩
/-- A function whose result is a tile in a cell. -/
theorem tile_ret {fn : Func} {Q : Ending → World → Prop} {tmps : Array Value} {w : World} {g : Nat} {r : Rt} {s : Tmp} (hr : fn.results = #[.cell s 77]) (hs : tmps.getD s undef = .pointer (some ⟨g, 0, none⟩))
    (h : TX w g r) (hq : Q (.returned (.agg #[.int .i64 r.num, r.p, r.q, .int .i64 r.c])) w) : bodyPost Try.prog fn Q .ret ⟨tmps, []⟩ w := by
  obtain ⟨q0, q1, q2, q3⟩ := h.cells
  refine bodyPost_ret (v := .agg #[.int .i64 r.num, r.p, r.q, .int .i64 r.c]) ?_ rfl hq
  have hs' : tmps[s]?.getD undef = .pointer (some ⟨g, 0, none⟩) := by simpa using hs
  simp [results, hr, hs', go_sem, q0, q1, q2, q3]
theorem tile_ret2 {fn : Func} {Q : Ending → World → Prop} {tmps : Array Value} {w : World} {g : Nat} {r : Rt} {s u : Tmp} {k : Bool} (hr : fn.results = #[.cell s 77, .tmp u]) (hs : tmps.getD s undef = .pointer (some ⟨g, 0, none⟩)) (hu : tmps.getD u undef = .bool k)
    (h : TX w g r) (hq : Q (.returned (.tuple #[.agg #[.int .i64 r.num, r.p, r.q, .int .i64 r.c], .bool k])) w) : bodyPost Try.prog fn Q .ret ⟨tmps, []⟩ w := by
  obtain ⟨q0, q1, q2, q3⟩ := h.cells
  refine bodyPost_ret (v := .tuple #[.agg #[.int .i64 r.num, r.p, r.q, .int .i64 r.c], .bool k]) ?_ rfl hq
  have hs' : tmps[s]?.getD undef = .pointer (some ⟨g, 0, none⟩) := by simpa using hs
  have hu' : tmps[u]?.getD undef = .bool k := by simpa using hu
  simp [results, hr, hs', hu', go_sem, q0, q1, q2, q3]
theorem RtOk.nil (w : World) (L B : Nat) (n c : Int) : RtOk w L B ⟨n, .slice none 0 0, .slice none 0 0, c⟩ ⟨n, [], [], c⟩ := ⟨rfl, rfl, OW.nil _ _ _, OW.nil _ _ _⟩

end Go.Proofs.Ytgcbfiamhpfkhaa

namespace Go.Proofs.Ytgcbfiamhpfkhaa
open Go.RowKit
set_option linter.unusedVariables false

set_option maxHeartbeats 4000000 in
theorem plainTile_any (s : ByteArray) (a b v : Int) (w : World) :
    Calls Try.prog 116 #[.agg #[.string s, .int .i64 a, .int .i64 b, .int .i64 v]] w fun e w' => ∃ r : Rt, e = .returned (.agg #[.int .i64 r.num, r.p, r.q, .int .i64 r.c]) ∧ RtOk w' w.heap.size w'.heap.size r (plainT ⟨s, a, b, v⟩) ∧ Below w.heap.size w w' := by
  have hP : Hid (plainT ⟨s, a, b, v⟩ = if (s.toList == [105,110]) = true then ⟨0, [], [], 0⟩ else if (s.toList == [99,111,110,115,116]) = true then ⟨1, [], [], 1⟩ else ⟨1 + (parts ⟨s, a, b, v⟩).length, parts ⟨s, a, b, v⟩, [], cst s⟩) := rfl
  have hB2 := fun o o' => ((Below.refl w.heap.size w).alloc (Nat.le_refl _) o).alloc (by simp) o'
  have hT := Lib.hid (fun o => TX.new (w := w.alloc o) zeroRt (g := w.heap.size + 1) (by simp))
  have hBH := Lib.hid hB2
  have hNd := Lib.hid (fun o => (show CB 65 (w.alloc (.cells #[.string s, .int .i64 a, .int .i64 b, .int .i64 v] 65)) w.heap.size [.string s, .int .i64 a, .int .i64 b, .int .i64 v] from heap_alloc_new w _).below ((Below.refl _ _).alloc (Nat.le_refl _) o) (by simp))
  clear hB2
  cases h1 : (s.toList == [105,110])
  · cases h2 : (s.toList == [99,111,110,115,116])
    · rw [h1, h2] at hP
      have hC : Hid (cstI s = cst s) := by
        have e1 : ¬ s.toList = [105,110] := by simpa using h1
        have e2 : ¬ s.toList = [99,111,110,115,116] := by simpa using h2
        simp [Hid, cstI, e1, e2]
      have hlen : (parts ⟨s, a, b, v⟩).length ≤ 2 := by unfold parts; (repeat' split) <;> simp
      obtain ⟨ps, hpe⟩ : ∃ ps, ps = parts ⟨s, a, b, v⟩ := ⟨_, rfl⟩
      rw [← hpe] at hP hlen
      have hO := Lib.hid (fun W => by have := operandsOf_own s a b v W; rw [← hpe] at this; exact this)
      clear hpe
      go_enter Try.func116, Try.ntmps116
      go_wp2_with (fail)
      refine (hO.out _).mono ?_
      rintro e w3 ⟨PA, pc, rfl, hps, hb3⟩
      have hz3 := hb3.size
      simp at hz3
      have hN3 := (hNd.out _).below hb3 (by simp; omega)
      have c0 := hN3.cell 0
      have c1 := hN3.cell 1
      have c2 := hN3.cell 2
      have c3 := hN3.cell 3
      simp at c0 c1 c2 c3
      have hT3 := Lib.hid (CB.below (hT.out _) hb3 (by simp))
      have hB3 := Lib.hid ((hBH.out _ _).trans (hb3.mono (by simp; omega)))
      have hps3 := Lib.hid hps
      clear hb3 hps hN3
      go_wp2_with (fail)
      refine (costOfNode_any _ _ _ _ _).mono ?_
      rintro e w4 ⟨rfl, hb4⟩
      have hz4 := hb4.size
      have hT4 : TX w4 (w.heap.size + 1) zeroRt := CB.below hT3.out hb4 (by omega)
      obtain ⟨q0, q1, q2, q3⟩ := hT4.cells
      obtain ⟨z0, z1, z2, z3⟩ := hT4.fz
      have hT4' := Lib.hid hT4
      have hB4 := Lib.hid (hB3.out.trans (hb4.mono (by omega)))
      have hps4 := Lib.hid (hps3.out.below hb4 (Nat.le_refl _))
      rw [hC.out]
      have hX := Lib.hid (hT4'.out.put ⟨1 + (ps.length : Int), .slice PA ps.length pc, .slice none 0 0, cst s⟩)
      have hY := Lib.hid (below_put4t hB4.out (show w.heap.size ≤ w.heap.size + 1 by omega) ⟨1 + (ps.length : Int), .slice PA ps.length pc, .slice none 0 0, cst s⟩)
      have hZ := Lib.hid (hps4.out.put4t (g := w.heap.size + 1) (by simp) ⟨1 + (ps.length : Int), .slice PA ps.length pc, .slice none 0 0, cst s⟩)
      clear hb4 hT4 c0 c1 c2 c3
      go_wp2
      refine tile_ret (g := w.heap.size + 1) (r := ⟨1 + (ps.length : Int), .slice PA ps.length pc, .slice none 0 0, cst s⟩) rfl rfl ?_ ?_
      · exact hX.out
      · refine ⟨⟨1 + (ps.length : Int), .slice PA ps.length pc, .slice none 0 0, cst s⟩, rfl, ?_, hY.out⟩
        rw [hP.out]
        exact ⟨rfl, rfl, (hZ.out.lower (by simp; omega)).more (by simp; omega), OW.nil _ _ _⟩
    · rw [h1, h2] at hP
      have hX := Lib.hid (TX.new (w := w.alloc (.cells #[.string s, .int .i64 a, .int .i64 b, .int .i64 v] 65)) (g := w.heap.size + 1) ⟨1, .slice none 0 0, .slice none 0 0, 1⟩ (by simp))
      have hY := hBH
      clear hNd hBH hT
      go_enter Try.func116, Try.ntmps116
      go_wp2
      refine tile_ret (g := w.heap.size + 1) (r := ⟨1, .slice none 0 0, .slice none 0 0, 1⟩) rfl rfl ?_ ?_
      · exact hX.out
      · refine ⟨⟨1, .slice none 0 0, .slice none 0 0, 1⟩, rfl, ?_, ?_⟩
        · rw [hP.out]; exact RtOk.nil _ _ _ _ _
        · exact hY.out _ _
  · rw [h1] at hP
    have hX := Lib.hid (TX.new (w := w.alloc (.cells #[.string s, .int .i64 a, .int .i64 b, .int .i64 v] 65)) (g := w.heap.size + 1) ⟨0, .slice none 0 0, .slice none 0 0, 0⟩ (by simp))
    have hY := hBH
    clear hNd hBH hT
    go_enter Try.func116, Try.ntmps116
    go_wp2
    refine tile_ret (g := w.heap.size + 1) (r := ⟨0, .slice none 0 0, .slice none 0 0, 0⟩) rfl rfl ?_ ?_
    · exact hX.out
    · refine ⟨⟨0, .slice none 0 0, .slice none 0 0, 0⟩, rfl, ?_, ?_⟩
      · rw [hP.out]; exact RtOk.nil _ _ _ _ _
      · exact hY.out _ _
end Go.Proofs.Ytgcbfiamhpfkhaa

/- tileAt of the program: a form at a node. -/
namespace Go.Proofs.Ytgcbfiamhpfkhaa
open Go.RowKit
set_option linter.unusedVariables false

theorem six_facts {w W : World} {o1 o2 o3 o4 o5 o6 : Obj} {nq : Nat} (hW : ((((((w.alloc o1).alloc o2).alloc o3).drewN nq).alloc o4).alloc o5).alloc o6 = W) :
    W.heap.size = w.heap.size + 6 ∧ W.heap[w.heap.size]? = some o1 ∧ W.heap[w.heap.size + 1]? = some o2 ∧ W.heap[w.heap.size + 1 + 1 + 1]? = some o4 ∧ W.heap[w.heap.size + 1 + 1 + 1 + 1]? = some o5 ∧ W.heap[w.heap.size + 5]? = some o6 ∧ Below w.heap.size w W := by
  subst hW
  have st := fun (V : World) (o : Obj) (B : Nat) (a : World) (h : Below B a V) (hB : B ≤ V.heap.size) => h.alloc hB o
  have sz : ∀ (V : World) (o : Obj), (V.alloc o).heap.size = V.heap.size + 1 := fun V o => World.size_alloc V o
  obtain ⟨V1, e1⟩ : ∃ V, V = w.alloc o1 := ⟨_, rfl⟩
  have z1 := sz w o1; have h1 := heap_alloc_new w o1; have b1 := st w o1 _ _ (Below.refl w.heap.size w) (Nat.le_refl _)
  rw [← e1] at z1 h1 b1 ⊢
  clear e1
  obtain ⟨V2, e2⟩ : ∃ V, V = V1.alloc o2 := ⟨_, rfl⟩
  have z2 := sz V1 o2; have h2 := heap_alloc_new V1 o2; have b2 := st V1 o2 _ _ (Below.refl V1.heap.size V1) (Nat.le_refl _)
  rw [← e2] at z2 h2 b2 ⊢
  clear e2
  obtain ⟨V3, e3⟩ : ∃ V, V = (V2.alloc o3).drewN nq := ⟨_, rfl⟩
  have z3 : ((V2.alloc o3).drewN nq).heap.size = V2.heap.size + 1 := sz V2 o3
  have b3 := below_drewN (st V2 o3 _ _ (Below.refl V2.heap.size V2) (Nat.le_refl _)) nq
  rw [← e3] at z3 b3 ⊢
  clear e3
  obtain ⟨V4, e4⟩ : ∃ V, V = V3.alloc o4 := ⟨_, rfl⟩
  have z4 := sz V3 o4; have h4 := heap_alloc_new V3 o4; have b4 := st V3 o4 _ _ (Below.refl V3.heap.size V3) (Nat.le_refl _)
  rw [← e4] at z4 h4 b4 ⊢
  clear e4
  obtain ⟨V5, e5⟩ : ∃ V, V = V4.alloc o5 := ⟨_, rfl⟩
  have z5 := sz V4 o5; have h5 := heap_alloc_new V4 o5; have b5 := st V4 o5 _ _ (Below.refl V4.heap.size V4) (Nat.le_refl _)
  rw [← e5] at z5 h5 b5 ⊢
  clear e5
  have z6 := sz V5 o6; have h6 := heap_alloc_new V5 o6; have b6 := st V5 o6 _ _ (Below.refl V5.heap.size V5) (Nat.le_refl _)
  have n1 : V1.heap.size = w.heap.size + 1 := z1
  have n3 : V3.heap.size = w.heap.size + 1 + 1 + 1 := by omega
  have n4 : V4.heap.size = w.heap.size + 1 + 1 + 1 + 1 := by omega
  have n5 : V5.heap.size = w.heap.size + 5 := by omega
  rw [n1] at h2; rw [n3] at h4; rw [n4] at h5; rw [n5] at h6
  refine ⟨by omega, ?_, ?_, ?_, ?_, h6, ?_⟩
  · exact ((b6.block _ (by omega)).trans ((b5.block _ (by omega)).trans ((b4.block _ (by omega)).trans ((b3.block _ (by omega)).trans (b2.block _ (by omega)))))).trans h1
  · exact ((b6.block _ (by omega)).trans ((b5.block _ (by omega)).trans ((b4.block _ (by omega)).trans (b3.block _ (by omega))))).trans h2
  · exact ((b6.block _ (by omega)).trans (b5.block _ (by omega))).trans h4
  · exact (b6.block _ (by omega)).trans h5
  · exact ((((b1.trans (b2.mono (by omega))).trans (b3.mono (by omega))).trans (b4.mono (by omega))).trans (b5.mono (by omega))).trans (b6.mono (by omega))
theorem six_facts2 {w W : World} {o1 o2 o3 o4 o5 o6 : Obj} {nq nr : Nat} (hW : (((((((w.alloc o1).alloc o2).alloc o3).drewN nq).drewN nr).alloc o4).alloc o5).alloc o6 = W) :
    W.heap.size = w.heap.size + 6 ∧ W.heap[w.heap.size]? = some o1 ∧ W.heap[w.heap.size + 1]? = some o2 ∧ W.heap[w.heap.size + 1 + 1 + 1]? = some o4 ∧ W.heap[w.heap.size + 1 + 1 + 1 + 1]? = some o5 ∧ W.heap[w.heap.size + 5]? = some o6 ∧ Below w.heap.size w W := by
  subst hW
  have st := fun (V : World) (o : Obj) (B : Nat) (a : World) (h : Below B a V) (hB : B ≤ V.heap.size) => h.alloc hB o
  have sz : ∀ (V : World) (o : Obj), (V.alloc o).heap.size = V.heap.size + 1 := fun V o => World.size_alloc V o
  obtain ⟨V1, e1⟩ : ∃ V, V = w.alloc o1 := ⟨_, rfl⟩
  have z1 := sz w o1; have h1 := heap_alloc_new w o1; have b1 := st w o1 _ _ (Below.refl w.heap.size w) (Nat.le_refl _)
  rw [← e1] at z1 h1 b1 ⊢
  clear e1
  obtain ⟨V2, e2⟩ : ∃ V, V = V1.alloc o2 := ⟨_, rfl⟩
  have z2 := sz V1 o2; have h2 := heap_alloc_new V1 o2; have b2 := st V1 o2 _ _ (Below.refl V1.heap.size V1) (Nat.le_refl _)
  rw [← e2] at z2 h2 b2 ⊢
  clear e2
  obtain ⟨V3, e3⟩ : ∃ V, V = ((V2.alloc o3).drewN nq).drewN nr := ⟨_, rfl⟩
  have z3 : (((V2.alloc o3).drewN nq).drewN nr).heap.size = V2.heap.size + 1 := sz V2 o3
  have b3 := below_drewN (below_drewN (st V2 o3 _ _ (Below.refl V2.heap.size V2) (Nat.le_refl _)) nq) nr
  rw [← e3] at z3 b3 ⊢
  clear e3
  obtain ⟨V4, e4⟩ : ∃ V, V = V3.alloc o4 := ⟨_, rfl⟩
  have z4 := sz V3 o4; have h4 := heap_alloc_new V3 o4; have b4 := st V3 o4 _ _ (Below.refl V3.heap.size V3) (Nat.le_refl _)
  rw [← e4] at z4 h4 b4 ⊢
  clear e4
  obtain ⟨V5, e5⟩ : ∃ V, V = V4.alloc o5 := ⟨_, rfl⟩
  have z5 := sz V4 o5; have h5 := heap_alloc_new V4 o5; have b5 := st V4 o5 _ _ (Below.refl V4.heap.size V4) (Nat.le_refl _)
  rw [← e5] at z5 h5 b5 ⊢
  clear e5
  have z6 := sz V5 o6; have h6 := heap_alloc_new V5 o6; have b6 := st V5 o6 _ _ (Below.refl V5.heap.size V5) (Nat.le_refl _)
  have n1 : V1.heap.size = w.heap.size + 1 := z1
  have n3 : V3.heap.size = w.heap.size + 1 + 1 + 1 := by omega
  have n4 : V4.heap.size = w.heap.size + 1 + 1 + 1 + 1 := by omega
  have n5 : V5.heap.size = w.heap.size + 5 := by omega
  rw [n1] at h2; rw [n3] at h4; rw [n4] at h5; rw [n5] at h6
  refine ⟨by omega, ?_, ?_, ?_, ?_, h6, ?_⟩
  · exact ((b6.block _ (by omega)).trans ((b5.block _ (by omega)).trans ((b4.block _ (by omega)).trans ((b3.block _ (by omega)).trans (b2.block _ (by omega)))))).trans h1
  · exact ((b6.block _ (by omega)).trans ((b5.block _ (by omega)).trans ((b4.block _ (by omega)).trans (b3.block _ (by omega))))).trans h2
  · exact ((b6.block _ (by omega)).trans (b5.block _ (by omega))).trans h4
  · exact (b6.block _ (by omega)).trans h5
  · exact ((((b1.trans (b2.mono (by omega))).trans (b3.mono (by omega))).trans (b4.mono (by omega))).trans (b5.mono (by omega))).trans (b6.mono (by omega))
theorem three_facts {w W : World} {o1 o2 o3 : Obj} {nq : Nat} (hW : (((w.alloc o1).alloc o2).alloc o3).drewN nq = W) :
    W.heap.size = w.heap.size + 3 ∧ W.heap[w.heap.size]? = some o1 ∧ W.heap[w.heap.size + 1]? = some o2 ∧ Below w.heap.size w W := by
  subst hW
  have st := fun (V : World) (o : Obj) (B : Nat) (a : World) (h : Below B a V) (hB : B ≤ V.heap.size) => h.alloc hB o
  have sz : ∀ (V : World) (o : Obj), (V.alloc o).heap.size = V.heap.size + 1 := fun V o => World.size_alloc V o
  obtain ⟨V1, e1⟩ : ∃ V, V = w.alloc o1 := ⟨_, rfl⟩
  have z1 := sz w o1; have h1 := heap_alloc_new w o1; have b1 := st w o1 _ _ (Below.refl w.heap.size w) (Nat.le_refl _)
  rw [← e1] at z1 h1 b1 ⊢
  clear e1
  obtain ⟨V2, e2⟩ : ∃ V, V = V1.alloc o2 := ⟨_, rfl⟩
  have z2 := sz V1 o2; have h2 := heap_alloc_new V1 o2; have b2 := st V1 o2 _ _ (Below.refl V1.heap.size V1) (Nat.le_refl _)
  rw [← e2] at z2 h2 b2 ⊢
  clear e2
  have z3 : ((V2.alloc o3).drewN nq).heap.size = V2.heap.size + 1 := sz V2 o3
  have b3 := below_drewN (st V2 o3 _ _ (Below.refl V2.heap.size V2) (Nat.le_refl _)) nq
  have n1 : V1.heap.size = w.heap.size + 1 := z1
  rw [n1] at h2
  refine ⟨by omega, ?_, ?_, ?_⟩
  · exact ((b3.block _ (by omega)).trans (b2.block _ (by omega))).trans h1
  · exact (b3.block _ (by omega)).trans h2
  · exact (b1.trans (b2.mono (by omega))).trans (b3.mono (by omega))
theorem six_plain {w W : World} {o1 o2 o3 o4 o5 o6 : Obj} (hW : (((((w.alloc o1).alloc o2).alloc o3).alloc o4).alloc o5).alloc o6 = W) :
    W.heap.size = w.heap.size + 6 ∧ W.heap[w.heap.size + 1 + 1]? = some o3 ∧ W.heap[w.heap.size + 1 + 1 + 1 + 1]? = some o5 ∧ W.heap[w.heap.size + 1 + 1 + 1 + 1 + 1]? = some o6 ∧ Below w.heap.size w W := by
  subst hW
  have st := fun (V : World) (o : Obj) (B : Nat) (a : World) (h : Below B a V) (hB : B ≤ V.heap.size) => h.alloc hB o
  have sz : ∀ (V : World) (o : Obj), (V.alloc o).heap.size = V.heap.size + 1 := fun V o => World.size_alloc V o
  obtain ⟨V2, e2⟩ : ∃ V, V = (w.alloc o1).alloc o2 := ⟨_, rfl⟩
  have z2 : ((w.alloc o1).alloc o2).heap.size = w.heap.size + 1 + 1 := by rw [sz, sz]
  have b2 := st (w.alloc o1) o2 _ _ (st w o1 _ _ (Below.refl w.heap.size w) (Nat.le_refl _)) (by rw [sz]; omega)
  rw [← e2] at z2 b2 ⊢
  clear e2
  obtain ⟨V3, e3⟩ : ∃ V, V = V2.alloc o3 := ⟨_, rfl⟩
  have z3 := sz V2 o3; have h3 := heap_alloc_new V2 o3; have b3 := st V2 o3 _ _ (Below.refl V2.heap.size V2) (Nat.le_refl _)
  rw [← e3] at z3 h3 b3 ⊢
  clear e3
  obtain ⟨V4, e4⟩ : ∃ V, V = V3.alloc o4 := ⟨_, rfl⟩
  have z4 := sz V3 o4; have b4 := st V3 o4 _ _ (Below.refl V3.heap.size V3) (Nat.le_refl _)
  rw [← e4] at z4 b4 ⊢
  clear e4
  obtain ⟨V5, e5⟩ : ∃ V, V = V4.alloc o5 := ⟨_, rfl⟩
  have z5 := sz V4 o5; have h5 := heap_alloc_new V4 o5; have b5 := st V4 o5 _ _ (Below.refl V4.heap.size V4) (Nat.le_refl _)
  rw [← e5] at z5 h5 b5 ⊢
  clear e5
  have z6 := sz V5 o6; have h6 := heap_alloc_new V5 o6; have b6 := st V5 o6 _ _ (Below.refl V5.heap.size V5) (Nat.le_refl _)
  have n4 : V4.heap.size = w.heap.size + 1 + 1 + 1 + 1 := by omega
  have n5 : V5.heap.size = w.heap.size + 1 + 1 + 1 + 1 + 1 := by omega
  rw [z2] at h3; rw [n4] at h5; rw [n5] at h6
  refine ⟨by omega, ?_, ?_, h6, ?_⟩
  · exact ((b6.block _ (by omega)).trans ((b5.block _ (by omega)).trans (b4.block _ (by omega)))).trans h3
  · exact (b6.block _ (by omega)).trans h5
  · exact (((b2.trans (b3.mono (by omega))).trans (b4.mono (by omega))).trans (b5.mono (by omega))).trans (b6.mono (by omega))
theorem size_put4t' (w : World) (g : Nat) (r : Rt) : (put4t w g r).heap.size = w.heap.size := size_put4t w g r
def TileRes (w : World) (ok : Bool) (t : Ti) (e : Ending) (w' : World) : Prop :=
  ∃ r : Rt, e = .returned (.tuple #[.agg #[.int .i64 r.num, r.p, r.q, .int .i64 r.c], .bool ok]) ∧ (ok = true → RtOk w' w.heap.size w'.heap.size r t) ∧ Below w.heap.size w w' ∧ (∃ PA n c, r.p = .slice PA n c) ∧ (∃ QA m c, r.q = .slice QA m c)

set_option maxHeartbeats 4000000 in
theorem tileAt_no (L LE BE : Nat) (f : Fo) (hf : f ∈ fos) (r : Rf) (A : Option Addr) (c : Nat) (es : List Nd) (k : Nat) (hk : k < es.length) (w : World) (hr : RfOk L f r w) (hes : NS w LE BE A es) (hB : BE ≤ w.heap.size) (hl : es.length ≤ 24) (hok : okFrom es 0 = true) (hh : hasS f.ops es[k].op = false) :
    Calls Try.prog 118 #[.agg #[.int .i64 r.num, r.o, .string r.btw, .bool r.fst, r.q], .slice A es.length c, .int .i64 (k : Int)] w (TileRes w (foOk es f es[k]) (foTi es f es[k])) := by
  obtain ⟨num, o, btw, fst, q⟩ := r
  obtain ⟨e1, e2, e3, ⟨OA, oc, e4, ho⟩, hq⟩ := hr
  dsimp only at e1 e2 e3 e4 hq ⊢
  have hws : f.ws.length ≤ 5 := by
    have : ∀ f ∈ fos, f.ws.length ≤ 5 := by decide
    exact this f hf
  have hops : f.ops.length ≤ 5 := by
    have : ∀ f ∈ fos, f.ops.length ≤ 5 := by decide
    exact this f hf
  have hTk := Lib.hid (fun s a b v W (hb : Below w.heap.size w W) => takes_any L f f.num (.slice OA f.ops.length oc) f.btw f.fst q s a b v W (hq.next hb) hws)
  obtain ⟨QA, qc, e5, hqi⟩ := hq
  subst e1 e2 e3 e4 e5
  obtain ⟨b0, o0, rfl, ⟨_, hbB⟩, hc⟩ := hes (by omega)
  have hbw : b0 < w.heap.size := by omega
  clear hbB hB hes
  have hN := ok_get hok hk
  obtain ⟨c1, c2, c3, c4⟩ := hc k hk
  have h2 : hasS f.ops es[k].op = true → isTwo es[k].op = true := two_of_has hf
  have hbd : isTwo es[k].op = true → 0 ≤ es[k].a ∧ es[k].a < (k : Int) ∧ 0 ≤ es[k].b ∧ es[k].b < (k : Int) := two_bd hN
  have hHS := Lib.hid (fun s W (hb : Below w.heap.size w W) => ContainsS_any L _ OA _ oc f.ops s W rfl (by omega) (RS.below ho hb (Nat.le_refl _)))
  have hB3 := fun o1 o2 o3 => Lib.hid ((((Below.refl w.heap.size w).alloc (Nat.le_refl _) o1).alloc (by simp) o2).alloc (by simp; omega) o3)
  have hFo : Hid (foOk es f es[k] = (hasS f.ops es[k].op && (if noBtw f = true then takes f (nodeAt es (fTaken f es[k])) else (nodeAt es (fTaken f es[k])).op.toList == f.btw.toList && takes f (nodeAt es (nodeAt es (fTaken f es[k])).b)))) := rfl
  rw [hh] at hFo
  rw [show foOk es f es[k] = false from hFo.out]
  generalize foTi es f es[k] = ti
  clear hFo h2 hbd hc hN
  generalize es[k] = nd at *
  obtain ⟨s, a, b, v⟩ := nd
  dsimp only at hh c1 c2 c3 c4
  have hX := Lib.hid (fun o o' => CB.below (TX.new (w := w.alloc o) zeroRt (g := w.heap.size + 1) (by simp)) ((Below.refl _ _).alloc (Nat.le_refl _) o') (by simp))
  go_enter Try.func118, Try.ntmps118
  go_wp2_with (go_at_call 161; refine (hHS.out _ _ (hB3 _ _ _).out).mono ?_; rw [hh]; rintro e w' ⟨rfl, rfl⟩)
  refine tile_ret2 (g := w.heap.size + 1) (r := zeroRt) rfl rfl rfl ?_ ?_
  · exact hX.out _ _
  · exact ⟨zeroRt, rfl, (fun h => by cases h), (hB3 _ _ _).out, ⟨_, _, _, rfl⟩, ⟨_, _, _, rfl⟩⟩
end Go.Proofs.Ytgcbfiamhpfkhaa

/- tilesOf of the program: the plain tile and the forms' ones; tileOf. -/
namespace Go.Proofs.Ytgcbfiamhpfkhaa
open Go.RowKit
set_option linter.unusedVariables false

theorem Try.infoTile : (Try.prog.info? 77).map (fun i => (i.zero, i.size, i.bytes)) = some (some (.agg #[.int .i64 0, .slice none 0 0, .slice none 0 0, .int .i64 0]), 4, 64) := by kernel_rfl
def tilesTo (es : List Nd) (n : Nd) (j : Nat) : List Ti := plainT n :: (fos.take j).filterMap (foO es n)
theorem tilesTo_succ {es : List Nd} {n : Nd} {j : Nat} (h : j < fos.length) : tilesTo es n (j + 1) = if foOk es fos[j] n = true then tilesTo es n j ++ [foTi es fos[j] n] else tilesTo es n j := by
  unfold tilesTo
  rw [List.take_succ_eq_append_getElem h, List.filterMap_append]
  unfold foO
  split <;> simp_all
theorem tilesTo_all (es : List Nd) (n : Nd) : tilesTo es n 9 = plainT n :: fos.filterMap (foO es n) := rfl
theorem tilesTo_len (es : List Nd) (n : Nd) (j : Nat) : (tilesTo es n j).length ≤ 1 + j := by
  unfold tilesTo
  have := List.length_filterMap_le (foO es n) (fos.take j)
  have h2 := List.length_take_le j fos
  simp only [List.length_cons]; omega

/-- The call of tileAt, at whatever form of the nine. -/
def TileAtIs (es : List Nd) (A : Option Addr) (c k : Nat) (n : Nd) (L : Nat) : Prop := ∀ (f : Fo), f ∈ fos → ∀ (r : Rf) (W : World), RfOk L f r W → L ≤ W.heap.size →
  Calls Try.prog 118 #[.agg #[.int .i64 r.num, r.o, .string r.btw, .bool r.fst, r.q], .slice A es.length c, .int .i64 (k : Int)] W (TileRes W (foOk es f n) (foTi es f n))
theorem four_ofs {w : World} {g : Nat} {r : Rt} (hg : w.heap.size = g) : ∀ (j : Nat) (u : Value), r.enc[j]? = some u → (w.alloc (.cells #[.int .i64 r.num, r.p, r.q, .int .i64 r.c] 77)).cell? ((⟨g, 0, none⟩ : Addr).add j) = some u := by
  intro j u hj
  rw [addr_add]
  have h : CB 77 (w.alloc (.cells #[.int .i64 r.num, r.p, r.q, .int .i64 r.c] 77)) g r.enc := TX.new r hg
  rw [h.cell j]; exact hj
theorem rt_one {w : World} {L B : Nat} {r : Rt} {t : Ti} (h : RtOk w L B r t) : ∀ u ∈ r.enc, u.oneCell' = true := by
  obtain ⟨PA, pc, QA, qc, rfl, _, _⟩ := h.form
  intro u hu
  simp [Rt.enc] at hu
  rcases hu with rfl | rfl | rfl | rfl <;> rfl
theorem rtflat_snoc (rs : List Rt) (r : Rt) : (rs ++ [r]).flatMap Rt.enc = rs.flatMap Rt.enc ++ r.enc := by simp
theorem FormsAt.keep {L : Nat} {w w' : World} {A : Option Addr} {rs : List Rf} {fs : List Fo} (h : FormsAt L w A rs fs) (hk : ∀ b, L ≤ b → b < w.heap.size → w'.heap[b]? = w.heap[b]?) (hz : w.heap.size ≤ w'.heap.size) : FormsAt L w' A rs fs := by
  have hc : ∀ p : Addr, L ≤ p.block → p.block < w.heap.size → w'.cell? p = w.cell? p := fun p h1 h2 => World.cell?_of_block (hk _ h1 h2)
  refine ⟨(RS.keep h.1 hc).more (Nat.le_refl _) hz, h.2.1, fun k h1 h2 => ?_⟩
  obtain ⟨a1, a2, a3, ⟨A1, c1, e1, s1⟩, ⟨A2, c2, e2, s2⟩⟩ := h.2.2 k h1 h2
  exact ⟨a1, a2, a3, ⟨A1, c1, e1, (RS.keep s1 hc).more (Nat.le_refl _) hz⟩, ⟨A2, c2, e2, (s2.keep hc).more (Nat.le_refl _) hz⟩⟩
theorem rowNe {w : World} {L1 L2 k1 k2 n1 n2 : Nat} {t1 t2 : TypeId} {v1 v2 : Value} {x1 x2 : List Value} (h1 : w.ownsRow L1 t1 k1 v1 n1 x1) (h2 : w.ownsRow L2 t2 k2 v2 n2 x2) (ht : t1 ≠ t2) : ∀ j, v1.ownBlock = some j → v2.ownBlock ≠ some j := by
  intro j e1 e2
  rcases h1.2 with ⟨rfl, _⟩ | ⟨g, cap, cur, rfl, _, hh, _⟩
  · simp [Value.ownBlock] at e1
  · rcases h2.2 with ⟨rfl, _⟩ | ⟨g', cap', cur', rfl, _, hh', _⟩
    · simp [Value.ownBlock] at e2
    · have a1 : g = j := by simpa [Value.ownBlock] using e1
      have a2 : g' = j := by simpa [Value.ownBlock] using e2
      subst a1; subst a2
      rw [hh] at hh'
      injection hh' with hh'
      injection hh' with _ h9
      exact ht h9
theorem OW.keptNe {w w' : World} {lo hi : Nat} {v : Value} {xs : List Int} {row : Option Nat} (h : OW w lo hi v xs) (hg : w.grownBy w' row) (hne : ∀ k, v.ownBlock = some k → row ≠ some k) : OW w' lo hi v xs := by
  refine ⟨h.1.kept hg ?_, h.2⟩
  cases hv : v.ownBlock with
  | none => exact .inl rfl
  | some k => exact .inr (fun e => hne k hv e.symm)
/-- Tiles' parts are kept when a row of tiles grows. -/
theorem RtOk.grown {w w' : World} {L B n m : Nat} {r : Rt} {t : Ti} {v : Value} {xs : List Value} (h : RtOk w L B r t) (hv : w.ownsRow n 77 4 v m xs) (hg : w.grownBy w' v.ownBlock) : RtOk w' L B r t := by
  have hn : ∀ (u : Value) (ys : List Int), OW w L B u ys → ∀ k, u.ownBlock = some k → v.ownBlock ≠ some k := fun u ys hu k hk => rowNe hu.1 hv (by decide) k hk
  exact ⟨h.1, h.2.1, h.2.2.1.keptNe hg (hn _ _ h.2.2.1), h.2.2.2.keptNe hg (hn _ _ h.2.2.2)⟩
theorem AllOk.grown {w w' : World} {L B n m : Nat} {rs : List Rt} {ts : List Ti} {v : Value} {xs : List Value} (h : AllOk w L B rs ts) (hv : w.ownsRow n 77 4 v m xs) (hg : w.grownBy w' v.ownBlock) : AllOk w' L B rs ts :=
  ⟨h.1, fun k h1 h2 => (h.2 k h1 h2).grown hv hg⟩
end Go.Proofs.Ytgcbfiamhpfkhaa
