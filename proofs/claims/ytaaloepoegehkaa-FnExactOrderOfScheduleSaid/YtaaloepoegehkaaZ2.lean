/- Texts of this proof, one behind the other: NAO, NAP, NBA, NBAz, NBC, NBE. -/
import Derived.Test.YtaaloepoegehkaaZ6
import Derived.Test.YtaaloepoegehkaaZ3
import Derived.RangeFuncFrom
import Derived.OrdersIn
import Derived.ControlIn
import Derived.Deep.RegionLaw
import Derived.Deep.RegionHeld3
import Derived.Test.YtaaloepoegehkaaZ8
import Derived.WalkKit
import Derived.WalkSpells
import Derived.WalkLawsBesides
import Derived.Lib.Hide
import Derived.Test.YtaaloepoegehkaaZ11
import Derived.Laws.CopyOwn
import Derived.Test.YtaaloepoegehkaaZ5
/- Chapter 9: heights of the program, plain: as a fold over what comes. -/
namespace Go.Proofs.Ytaaloepoegehkaa
open Go.RowKit Go.Shelf
set_option linter.unusedVariables false

def hgY (cs : List In) (xs : List Int) (k : Nat) : List Int := xs.set k (max (xs.getD k 0) (cstA cs k))
def hgT (cs : List In) (xs : List Int) (k t : Nat) : List Int := ((ndL cs k cs.length).take t).foldl (hstep (max (xs.getD k 0) (cstA cs k))) (hgY cs xs k)
def hgS (cs : List In) (xs : List Int) (k : Nat) : List Int := hgT cs xs k (ndL cs k cs.length).length
def hgP (cs : List In) (pre : List (BwI cs)) : List Int := (pre.map fun x => x.1.1).foldl (hgS cs) (List.replicate cs.length 0)
theorem hgP_snoc {cs : List In} (pre : List (BwI cs)) (x : BwI cs) : hgP cs (pre ++ [x]) = hgS cs (hgP cs pre) x.1.1 := by
  unfold hgP; rw [List.map_append, List.foldl_append]; rfl
theorem hgT_len (cs : List In) (xs : List Int) (k t : Nat) : (hgT cs xs k t).length = xs.length := by unfold hgT hgY; rw [hfold_len, List.length_set]
theorem hgT_zero (cs : List In) (xs : List Int) (k : Nat) : hgT cs xs k 0 = hgY cs xs k := rfl
theorem hgT_succ {cs : List In} (xs : List Int) {k t : Nat} (h : t < (ndL cs k cs.length).length) : hgT cs xs k (t + 1) = hstep (max (xs.getD k 0) (cstA cs k)) (hgT cs xs k t) (ndL cs k cs.length)[t] := by
  unfold hgT; rw [List.take_succ_eq_append_getElem h, List.foldl_append]; rfl
theorem hgT_own {cs : List In} {xs : List Int} {k : Nat} (t : Nat) (hk : k < xs.length) : (hgT cs xs k t).getD k 0 = max (xs.getD k 0) (cstA cs k) := by
  unfold hgT
  rw [hfold_own _ k _ _ fun d hd => by
    obtain ⟨q, h1, _, _, rfl⟩ := mem_ndL (List.mem_of_mem_take hd)
    simpa using h1]
  unfold hgY
  rw [List.getD_eq_getElem?_getD, List.getElem?_set_self hk]; rfl
theorem hgP_len {cs : List In} (pre : List (BwI cs)) : (hgP cs pre).length = cs.length := by
  unfold hgP
  have : ∀ (l : List Nat) (xs : List Int), (l.foldl (hgS cs) xs).length = xs.length := by
    intro l
    induction l with
    | nil => intro xs; rfl
    | cons k l ih => intro xs; rw [List.foldl_cons, ih]; unfold hgS; rw [hgT_len]
  rw [this]; simp
theorem hfold_bd {v b : Int} (hv : 0 ≤ v ∧ v + 4 ≤ b) : ∀ (ns : List (Int × Int)) (xs : List Int), (∀ d ∈ ns, 0 ≤ d.2 ∧ d.2 ≤ 4) → (∀ x ∈ xs, 0 ≤ x ∧ x ≤ b) → ∀ x ∈ ns.foldl (hstep v) xs, 0 ≤ x ∧ x ≤ b
  | [], xs, _, h => h
  | d :: ns, xs, hd, h => by
    refine hfold_bd hv ns (hstep v xs d) (fun e he => hd e (by simp [he])) fun x hx => ?_
    have h1 := hd d (by simp)
    unfold hstep at hx
    rcases List.mem_or_eq_of_mem_set hx with hx | rfl
    · exact h x hx
    · have h2 : 0 ≤ xs.getD d.1.toNat 0 ∧ xs.getD d.1.toNat 0 ≤ b := by
        rw [List.getD_eq_getElem?_getD]
        cases hk : xs[d.1.toNat]? with
        | none => simp; omega
        | some x => exact h x (List.mem_of_getElem? hk)
      omega
theorem hgS_bd {cs : List In} {xs : List Int} {b : Int} (k : Nat) (hb : 4 ≤ b) (h : ∀ x ∈ xs, 0 ≤ x ∧ x ≤ b) : ∀ x ∈ hgS cs xs k, 0 ≤ x ∧ x ≤ b + 4 := by
  have h2 : 0 ≤ xs.getD k 0 ∧ xs.getD k 0 ≤ b := by
    rw [List.getD_eq_getElem?_getD]
    cases hk : xs[k]? with
    | none => simp; omega
    | some x => exact h x (List.mem_of_getElem? hk)
  have h3 := cstA_bd cs k
  unfold hgS hgT
  rw [List.take_length]
  refine hfold_bd (by omega) _ _ (fun d hd => ?_) fun x hx => ?_
  · obtain ⟨q, _, _, h4, rfl⟩ := mem_ndL hd
    exact ⟨h4, (dT_bd cs q k).2⟩
  · unfold hgY at hx
    rcases List.mem_or_eq_of_mem_set hx with hx | rfl
    · have := h x hx; omega
    · omega
theorem hgP_bd {cs : List In} (pre : List (BwI cs)) : ∀ x ∈ hgP cs pre, 0 ≤ x ∧ x ≤ 4 + 4 * (pre.length : Int) := by
  unfold hgP
  have : ∀ (l : List Nat) (xs : List Int) (b : Int), 4 ≤ b → (∀ x ∈ xs, 0 ≤ x ∧ x ≤ b) → ∀ x ∈ l.foldl (hgS cs) xs, 0 ≤ x ∧ x ≤ b + 4 * (l.length : Int) := by
    intro l
    induction l with
    | nil => intro xs b _ h x hx; have := h x hx; simp; omega
    | cons k l ih =>
      intro xs b hb h x hx
      rw [List.foldl_cons] at hx
      have := ih (hgS cs xs k) (b + 4) (by omega) (hgS_bd k hb h) x hx
      rw [List.length_cons]
      omega
  have h2 := this (pre.map fun x => x.1.1) (List.replicate cs.length 0) 4 (by omega) (fun x hx => by have := (List.mem_replicate.1 hx).2; omega)
  rw [List.length_map] at h2
  exact h2
theorem hgS_eq {cs : List In} {i : Nat} (hi : i < cs.length) : hgS cs (hp cs (i + 1)) i = hp cs i := by
  have h : (hp cs (i + 1)).getD i 0 = pc cs i (i + 1) := by unfold hp; rw [mapR_at _ _ hi, if_neg (by omega)]
  rw [← hpr_end hi]
  unfold hgS hgT hgY hpr hps
  rw [h, pc_own hi]
theorem hgP_at {cs : List In} : ∀ m, m ≤ cs.length → hgP cs ((bL cs).take m) = hp cs (cs.length - m)
  | 0, _ => by rw [Nat.sub_zero, hp_top]; rfl
  | m + 1, h => by
    have ih := hgP_at (cs := cs) m (by omega)
    have hr : cs.length - (m + 1) < cs.length := by omega
    have e : (bL cs).take (m + 1) = (bL cs).take m ++ [⟨(cs.length - (m + 1), cs[cs.length - (m + 1)]), hr, List.getElem?_eq_getElem hr⟩] := by
      have := bL_succ (es := cs) (r := cs.length - (m + 1)) hr
      rw [show cs.length - (cs.length - (m + 1) + 1) = m by omega] at this
      exact this
    rw [e, hgP_snoc, ih]
    have := hgS_eq hr
    rw [show cs.length - (m + 1) + 1 = cs.length - m by omega] at this
    exact this
theorem hgP_all (cs : List In) : hgP cs ((bL cs).take cs.length) = hL cs := by
  rw [hgP_at cs.length (Nat.le_refl _), Nat.sub_self, hp_bot]

theorem cb_not {w : World} {row : Option Nat} {g : Nat} {t : TypeId} {cur : List Value} (h : CB t w g cur) (hr : ∀ r, row = some r → ∃ o : Obj, w.heap[r]? = some o ∧ o.isCells = false) : row ≠ some g := by
  intro e
  obtain ⟨o, ho, hc⟩ := hr g e
  rw [show w.heap[g]? = some (.cells cur.toArray t (0, 0)) from h] at ho; injection ho with ho; subst ho; cases hc
theorem keeps_cb {n Bs g k : Nat} {t t' : TypeId} {W : World} {cur : List Value} {v : Value} (hi : CB t' W g cur) (hn : n ≤ g) (hB : g ≠ Bs) : KeepsOthers W (W.setCell ⟨g, k, none⟩ v) ∧ KpB n Bs t W (W.setCell ⟨g, k, none⟩ v) :=
  ⟨KeepsOthers.setCell _ _ _, (Below.refl n W).setCell (p := ⟨g, k, none⟩) hn v, fun u h => h.other k v hB⟩
theorem keeps_below9 {n Bs : Nat} {t : TypeId} {W W' : World} (hb : Below W.heap.size W W') (hn : n ≤ W.heap.size) : KeepsOthers W W' ∧ KpB n Bs t W W' :=
  ⟨⟨hb.size, fun k o hk _ => (hb.block k (Array.getElem?_eq_some_iff.1 hk).1).trans hk⟩, hb.mono hn, fun v h => h.next hb⟩
theorem keeps_drew9 {n Bs : Nat} {t : TypeId} (W : World) : KeepsOthers W W.drew ∧ KpB n Bs t W W.drew := ⟨⟨Nat.le_refl _, fun _ _ h _ => h⟩, (Below.refl _ W).drew, fun _ h => h⟩
theorem keeps_t9 {n Bs : Nat} {t : TypeId} {A B C : World} (h1 : KeepsOthers A B ∧ KpB n Bs t A B) (h2 : KeepsOthers B C ∧ KpB n Bs t B C) : KeepsOthers A C ∧ KpB n Bs t A C := ⟨h1.1.trans h2.1, h1.2.t h2.2⟩
/-- What lies in the boxes of heights. -/
structure HG (w0 W : World) (p1 p2 p3 : Nat) (va vb : Value) (n : Nat) (xs : List Int) : Prop where
  h1 : w0.heap.size ≤ p1
  h12 : p1 < p2
  h23 : p2 < p3
  pb : CB 97 W p1 [va, vb]
  b3 : CB 34 W p3 [.slice (some ⟨p2, 0, none⟩) n n]
  ib : CB 3 W p2 (xs.map (Value.int .i64))
  be : Below w0.heap.size w0 W
theorem HG.below {w0 W W' : World} {p1 p2 p3 n : Nat} {va vb : Value} {xs : List Int} (h : HG w0 W p1 p2 p3 va vb n xs) (hb : Below W.heap.size W W') : HG w0 W' p1 p2 p3 va vb n xs :=
  ⟨h.h1, h.h12, h.h23, CB.below h.pb hb h.pb.lt, CB.below h.b3 hb h.b3.lt, CB.below h.ib hb h.ib.lt, h.be.trans (hb.mono h.be.size)⟩
theorem HG.kept {w0 W W' : World} {p1 p2 p3 n : Nat} {va vb : Value} {xs : List Int} {row : Option Nat} (h : HG w0 W p1 p2 p3 va vb n xs) (hg : W.grownBy W' row) (hr : ∀ r, row = some r → w0.heap.size ≤ r ∧ ∃ o : Obj, W.heap[r]? = some o ∧ o.isCells = false) : HG w0 W' p1 p2 p3 va vb n xs := by
  have hr' : ∀ r, row = some r → ∃ o : Obj, W.heap[r]? = some o ∧ o.isCells = false := fun r e => (hr r e).2
  exact ⟨h.h1, h.h12, h.h23, (hg.block p1 h.pb.lt (fun e => cb_not h.pb hr' e.symm)).trans h.pb, (hg.block p3 h.b3.lt (fun e => cb_not h.b3 hr' e.symm)).trans h.b3, (hg.block p2 h.ib.lt (fun e => cb_not h.ib hr' e.symm)).trans h.ib, h.be.grown hg h.be.size (fun k e => (hr k e).1)⟩
theorem HG.put {w0 W : World} {p1 p2 p3 n : Nat} {va vb : Value} {xs : List Int} (h : HG w0 W p1 p2 p3 va vb n xs) (k : Nat) (x : Int) : HG w0 (W.setCell ⟨p2, k, none⟩ (.int .i64 x)) p1 p2 p3 va vb n (xs.set k x) := by
  have h1 := h.h1; have h12 := h.h12; have h23 := h.h23
  have hib := h.ib.set k (.int .i64 x)
  rw [← List.map_set] at hib
  exact ⟨h1, h12, h23, (Below.heap_setCell W ⟨p2, k, none⟩ _ p1 (by show p1 ≠ p2; omega)).trans h.pb, (Below.heap_setCell W ⟨p2, k, none⟩ _ p3 (by show p3 ≠ p2; omega)).trans h.b3, hib, h.be.setCell (p := ⟨p2, k, none⟩) (by show w0.heap.size ≤ p2; omega) _⟩
theorem HG.drew {w0 W : World} {p1 p2 p3 n : Nat} {va vb : Value} {xs : List Int} (h : HG w0 W p1 p2 p3 va vb n xs) : HG w0 W.drew p1 p2 p3 va vb n xs := ⟨h.h1, h.h12, h.h23, h.pb, h.b3, h.ib, h.be.drew⟩
theorem HG.at {w0 W : World} {p1 p2 p3 n : Nat} {va vb : Value} {xs : List Int} (h : HG w0 W p1 p2 p3 va vb n xs) (k : Nat) (hk : k < xs.length) : W.cell? ⟨p2, k, none⟩ = some (.int .i64 (xs.getD k 0)) ∧ W.frozen? ⟨p2, k, none⟩ = false := by
  refine ⟨?_, CB.frozen h.ib k⟩
  rw [CB.cell h.ib k, List.getElem?_map, List.getElem?_eq_getElem hk, List.getD_eq_getElem?_getD, List.getElem?_eq_getElem hk]; rfl
end Go.Proofs.Ytaaloepoegehkaa

/- Chapter 9: heights of the program. -/
namespace Go.Proofs.Ytaaloepoegehkaa
open Go.RowKit Go.Shelf
set_option linter.unusedVariables false
set_option maxRecDepth 100000
attribute [local go_sem] Oper.semAt_some

set_option maxHeartbeats 8000000 in
theorem heights_any (L B : Nat) (A : Option Addr) (c : Nat) (cs : List In) (L1 B1 : Nat) (An : Option Addr) (cn : Nat) (w : World) (h20 : cs.length ≤ 20) (hes : RS In.enc 5 w L B A cs) (hB : B ≤ w.heap.size) (hpn : PN w L1 B1 An (nds cs)) (hB1 : B1 ≤ w.heap.size) :
    Calls Try.prog 147 #[.agg #[.slice A cs.length c, .slice An cs.length cn]] w (FreshI w (hL cs)) := by
  have hE := Lib.hid fun (W : World) (hW : Below w.heap.size w W) => hes.below hW hB
  have hPN := Lib.hid fun (W : World) (hW : Below w.heap.size w W) => hpn.below hW hB1
  have hBB := Lib.hid hB
  have hBN := Lib.hid hB1
  have hl : cs.length ≤ 1048576 := by omega
  have hmk := run_make_ints cs.length (by omega)
  clear hes hpn hB hB1
  refine (callsIn_wide (n := 6)).1 ?_
  refine callsIn_of_wp_marks Try.func147 rfl trivial ?_ rfl
  simp only [Try.ntmps147, List.size_toArray, List.length_cons, List.length_nil, Nat.reduceAdd, Nat.reduceSub, Array.replicate_succ, Array.replicate_zero, List.push_toArray, List.append_toArray, List.nil_append, List.cons_append]
  gi_wp2
  obtain ⟨W5, hW5⟩ : ∃ W5, W5 = ((w.alloc (.cells #[.slice A cs.length c, .slice An cs.length cn] 97)).alloc (.cells (intCells (zeros cs.length)) 3)).alloc (.cells #[.slice (some ⟨w.heap.size + 1, 0, none⟩) cs.length cs.length] 34) := ⟨_, rfl⟩
  have z1 := World.size_alloc w (.cells #[.slice A cs.length c, .slice An cs.length cn] 97)
  have z2 := World.size_alloc (w.alloc (.cells #[.slice A cs.length c, .slice An cs.length cn] 97)) (.cells (intCells (zeros cs.length)) 3)
  have D0 : HG w W5 w.heap.size (w.heap.size + 1) (w.heap.size + 1 + 1) (.slice A cs.length c) (.slice An cs.length cn) cs.length (zeros cs.length) := by
    have a1 := (Below.refl w.heap.size w).alloc (Nat.le_refl _) (.cells #[.slice A cs.length c, .slice An cs.length cn] 97)
    have a2 := a1.alloc a1.size (.cells (intCells (zeros cs.length)) 3)
    have a3 := a2.alloc a2.size (.cells #[.slice (some ⟨w.heap.size + 1, 0, none⟩) cs.length cs.length] 34)
    rw [hW5]
    refine ⟨Nat.le_refl _, by omega, by omega, ?_, ?_, ?_, a3⟩
    · have h := PB.new w (.slice A cs.length c) (.slice An cs.length cn)
      have h2 := CB.below h ((Below.refl _ _).alloc (Nat.le_refl _) (.cells (intCells (zeros cs.length)) 3)) (CB.lt h)
      exact CB.below h2 ((Below.refl _ _).alloc (Nat.le_refl _) _) (CB.lt h2)
    · have h : CB 34 (((w.alloc (.cells #[.slice A cs.length c, .slice An cs.length cn] 97)).alloc (.cells (intCells (zeros cs.length)) 3)).alloc (.cells #[.slice (some ⟨w.heap.size + 1, 0, none⟩) cs.length cs.length] 34)) _ [.slice (some ⟨w.heap.size + 1, 0, none⟩) cs.length cs.length] := heap_alloc_new _ _
      rw [z2, z1] at h; exact h
    · have h : CB 3 ((w.alloc (.cells #[.slice A cs.length c, .slice An cs.length cn] 97)).alloc (.cells (intCells (zeros cs.length)) 3)) _ ((zeros cs.length).map (Value.int .i64)) := heap_alloc_new _ _
      rw [z1] at h
      exact CB.below h ((Below.refl _ _).alloc (Nat.le_refl _) _) (CB.lt h)
  rw [← hW5]
  have Z5 := Lib.hid (show W5.heap.size = w.heap.size + 1 + 1 + 1 by rw [hW5, World.size_alloc, z2, z1])
  obtain ⟨p1, hp1⟩ : ∃ p1, p1 = w.heap.size := ⟨_, rfl⟩
  have Hp1 := Lib.hid hp1
  rw [← hp1] at D0 Z5 ⊢
  have Hp9 := Lib.hid (Nat.le_of_eq hp1.symm)
  generalize hp2 : p1 + 1 = p2 at *
  generalize hp3 : p2 + 1 = p3 at *
  have Hp2 := Lib.hid hp2
  have Hp3 := Lib.hid hp3
  have D0h := Lib.hid D0
  clear hW5 z1 z2 hp1 hmk D0 hp2 hp3
  gi_wp2
  refine ⟨trivial, (bwI_in Fence.wide 5 trivial rfl A cs.length c W5).mono ?_⟩
  rintro e W9 ⟨rfl, rfl⟩
  have a9 := (Below.refl W5.heap.size W5).alloc (Nat.le_refl _) (.cells #[.slice A cs.length c] 28)
  have L9 := Lib.hid (D0h.out.below a9)
  have TB9 := Lib.hid (BX.new W5 28 (.slice A cs.length c))
  have hes9 := Lib.hid (hE.out _ L9.out.be)
  have Z9 := World.size_alloc W5 (.cells #[.slice A cs.length c] 28)
  obtain ⟨Bs, hBs⟩ : ∃ Bs, Bs = W5.heap.size := ⟨_, rfl⟩
  obtain ⟨W9, hW9⟩ : ∃ W9, W9 = W5.alloc (.cells #[.slice A cs.length c] 28) := ⟨_, rfl⟩
  rw [← hBs, ← hW9]
  rw [← hW9] at L9 hes9 TB9 Z9
  rw [← hBs] at TB9 Z9
  have Zb := Lib.hid (show p3 < Bs by have := Z5.out; have := Hp2.out; have := Hp3.out; omega)
  have Z9h := Lib.hid Z9
  have B9 := Lib.hid L9.out.be
  clear a9 D0h hW9 hBs Z5 Z9
  gi_wp2
  refine wpIn_rangeFunc_ownH rfl (by omega) (gf := 222) (lb := #[.pointer (some ⟨Bs, 0, none⟩)]) rfl trivial (enters_of Try.func222 (by kernel_rfl) rfl)
    (bwI_stops Fence.wide 5 trivial rfl (by omega) Bs w.heap.size L B A c cs hl W9 B9.out.size TB9.out hes9.out hBB.out) KpB.t (KpB.b B9.out.size) (Below.refl _ _) (fun _ => rfl)
    (fun pre W => HG w W p1 p2 p3 (.slice A cs.length c) (.slice An cs.length cn) cs.length (hgP cs pre) ∧ Bs + 1 ≤ W.heap.size)
    (fun _ _ _ => False) ?hI ?hIx ?h0
    (fun x a' W => ∃ Bx, Bs < Bx ∧ XB W Bx x.1.2 ∧ a' = { tmps := #[.agg #[.slice A cs.length c, .slice An cs.length cn], .pointer (some ⟨p1, 0, none⟩), .slice none 0 0, .pointer (some ⟨p3, 0, none⟩), .int .i64 (x.1.1 : Int), .pointer (some ⟨Bx, 0, none⟩), undef, undef, .pointer (some ⟨p1, 0, none⟩), .slice A cs.length c, .int .i64 (cs.length : Int), .slice (some ⟨p2, 0, none⟩) cs.length cs.length, .pointer (some ⟨p1, 0, none⟩), .slice A cs.length c, .func (.func 222) #[] #[.pointer (some ⟨Bs, 0, none⟩)], .int .i64 (x.1.1 : Int), inV x.1.2, undef, undef, undef, undef, undef, undef, undef, undef, undef, undef, undef, undef, undef, undef, undef, undef, undef, undef, undef, undef, undef, undef, undef, undef, undef, undef, undef, undef, undef, undef, undef, undef, undef, undef, undef, undef, undef, undef, undef], defers := [] })
    ?hAx ?assign ?body ?done ?stop
  case hAx =>
    rintro x a' _ X YY row ⟨Bx, h1, h2, h3⟩ hg hr
    refine ⟨Bx, h1, ?_, h3⟩
    have hne : row ≠ some Bx := row_not (show X.heap[Bx]? = some (.cells (In.enc x.1.2).toArray 88 (0, 0)) from h2) (fun r e => (hr r e).2)
    exact (hg.block Bx (CB.lt h2) (fun e => hne e.symm)).trans h2
  case assign =>
    rintro l pre ⟨⟨k, ⟨op, d, a, b, m⟩⟩, hk, hy⟩ W K ⟨hD, hlt⟩ hK
    have ha := (Below.refl W.heap.size W).alloc (Nat.le_refl _) (.cells #[.string op, .int .i64 d, .int .i64 a, .int .i64 b, .int .i64 m] 88)
    have h1 := hK { tmps := #[.agg #[.slice A cs.length c, .slice An cs.length cn], .pointer (some ⟨p1, 0, none⟩), .slice none 0 0, .pointer (some ⟨p3, 0, none⟩), .int .i64 (k : Int), .pointer (some ⟨W.heap.size, 0, none⟩), undef, undef, .pointer (some ⟨p1, 0, none⟩), .slice A cs.length c, .int .i64 (cs.length : Int), .slice (some ⟨p2, 0, none⟩) cs.length cs.length, .pointer (some ⟨p1, 0, none⟩), .slice A cs.length c, .func (.func 222) #[] #[.pointer (some ⟨Bs, 0, none⟩)], .int .i64 (k : Int), inV ⟨op, d, a, b, m⟩, undef, undef, undef, undef, undef, undef, undef, undef, undef, undef, undef, undef, undef, undef, undef, undef, undef, undef, undef, undef, undef, undef, undef, undef, undef, undef, undef, undef, undef, undef, undef, undef, undef, undef, undef, undef, undef, undef, undef], defers := [] } (W.alloc (.cells #[.string op, .int .i64 d, .int .i64 a, .int .i64 b, .int .i64 m] 88)) ((KeepsOthers.alloc _ _).from _) ⟨ha.mono hD.be.size, fun v h => h.next ha⟩ ⟨hD.below ha, Nat.le_trans hlt ha.size⟩ ⟨W.heap.size, hlt, XB.newI9 W ⟨op, d, a, b, m⟩, rfl⟩
    dsimp only [inV] at h1
    have h1h := Lib.hid h1
    clear h1 hK hD
    dsimp only [inV]
    gi_wp2
    exact h1h.out
  case hI =>
    rintro pre W W' row ⟨hD, hlt⟩ hg hr
    exact ⟨hD.kept hg (fun r e => ⟨Nat.le_trans B9.out.size (hr r e).1, (hr r e).2⟩), Nat.le_trans hlt hg.size⟩
  case hIx => rintro cd pre W W' row hF; exact hF.elim
  case h0 => exact ⟨L9.out, by rw [Z9h.out]; exact Nat.le_refl _⟩
  case stop =>
    rintro D cd pre W _ _ hh _
    exact hh.elim
  case body =>
    rintro l pre x a' W hl0 _ ⟨hD, hWB⟩ ⟨Bx, hBx, hX, rfl⟩ hpl
    obtain ⟨⟨k, y⟩, hk, hy⟩ := x
    have hk' : k < cs.length := hk
    have hki : (k : Int) < (cs.length : Int) := by omega
    have hk0 : (0 : Int) ≤ (k : Int) := by omega
    have hsn := Lib.hid (hgP_snoc pre ⟨(k, y), hk, hy⟩)
    have hln := hgP_len pre
    have hbd := Lib.hid (hgP_bd pre)
    have hca : cstA cs k = (fm y.op).c := by
      unfold cstA
      rw [inAt_eq hk', (List.getElem?_eq_some_iff.1 (show cs[k]? = some y from hy)).2]
    have hcb := cstA_bd cs k
    generalize hP' : hgP cs (pre ++ [⟨(k, y), hk, hy⟩]) = P' at *
    have HP := Lib.hid hP'
    clear hP'
    generalize hgP cs pre = xs at *
    dsimp only at *
    have hgd : 0 ≤ xs.getD k 0 ∧ xs.getD k 0 ≤ 84 := by
      rw [List.getD_eq_getElem?_getD]
      cases hkk : xs[k]? with
      | none => simp
      | some x => have := hbd.out x (List.mem_of_getElem? hkk); simp only [Option.getD_some]; omega
    have hT0 := Lib.hid (hgT_zero cs xs k)
    have hTl := Lib.hid (hgT_len cs xs k)
    have hTo := Lib.hid fun (t : Nat) => hgT_own (cs := cs) t (show k < xs.length by rw [hln]; exact hk')
    have hTs := Lib.hid fun (t : Nat) (h : t < (ndL cs k cs.length).length) => hgT_succ xs h
    have hSe : Hid (hgS cs xs k = hgT cs xs k (ndL cs k cs.length).length) := rfl
    have hYe : Hid (hgY cs xs k = xs.set k (max (xs.getD k 0) (cstA cs k))) := rfl
    have hNd := Lib.hid fun (d : Int × Int) (h : d ∈ ndL cs k cs.length) => (show (∃ q : Nat, d.1 = (q : Int) ∧ q < k) ∧ 0 ≤ d.2 ∧ d.2 ≤ 4 from by
      obtain ⟨q, h1, _, h4, rfl⟩ := mem_ndL h
      exact ⟨⟨q, rfl, h1⟩, h4, (dT_bd cs q k).2⟩)
    have hNl := ndL_len cs k cs.length
    obtain ⟨op, d, a, b, m⟩ := y
    dsimp only [inV] at *
    rw [hca] at hYe hTo hTs hcb
    clear hbd hca
    have hD1 := Lib.hid hD.drew
    have hX1 := Lib.hid (show XB W.drew Bx ⟨op, d, a, b, m⟩ from hX)
    have hC := Lib.hid (costOf_any op d a b m W.drew)
    have u3 := CB.cell hD1.out.b3 0
    simp only [List.getElem?_cons_zero] at u3
    obtain ⟨u2, f2⟩ := hD1.out.at k (by rw [hln]; exact hk')
    obtain ⟨n0, n1, n2, n3, n4⟩ := XB.cells hX1.out
    dsimp only at n0 n1 n2 n3 n4
    have hWBh := Lib.hid hWB
    have hkp1 := Lib.hid (keeps_drew9 (n := w.heap.size) (Bs := Bs) (t := 28) W)
    generalize hct : (fm op).c = ct at *
    have HCt := Lib.hid hct
    clear hct
    generalize hyk : xs.getD k 0 = yk at *
    have HYk := Lib.hid hyk
    clear hyk hD hX hWB
    gi_wp2
    -- REGION 5 BEGIN
    have hS0 : (fun w' => w'.cell? ⟨p3, 0, none⟩ = some (.slice (some ⟨p2, 0, none⟩) cs.length cs.length) ∧ w'.cell? ⟨Bx, 0, none⟩ = some (.string op) ∧ w'.cell? ⟨Bx, 1, none⟩ = some (.int .i64 d) ∧ w'.cell? ⟨Bx, 2, none⟩ = some (.int .i64 a) ∧ w'.cell? ⟨Bx, 3, none⟩ = some (.int .i64 b) ∧ w'.cell? ⟨Bx, 4, none⟩ = some (.int .i64 m)) W.drew := ⟨u3, n0, n1, n2, n3, n4⟩
    refine region_round (S := fun w' => w'.cell? ⟨p3, 0, none⟩ = some (.slice (some ⟨p2, 0, none⟩) cs.length cs.length) ∧ w'.cell? ⟨Bx, 0, none⟩ = some (.string op) ∧ w'.cell? ⟨Bx, 1, none⟩ = some (.int .i64 d) ∧ w'.cell? ⟨Bx, 2, none⟩ = some (.int .i64 a) ∧ w'.cell? ⟨Bx, 3, none⟩ = some (.int .i64 b) ∧ w'.cell? ⟨Bx, 4, none⟩ = some (.int .i64 m)) (by kernel_rfl) (by kernel_rfl) (fun _ _ h => h) hS0 (fun hHeld => ?_)
    refine wpAnyH_take (i := 0) (v := ?_) rfl (by kernel_rfl) (by kernel_rfl) (by kernel_rfl) (fun _ _ _ h => h) (Or.inl ⟨by rfl, ?_⟩) (by assumption) ?_
    rotate_left 1
    · (intro w hSw; (try dsimp only at hSw); go_simp; try with_reducible rfl)
    try simp only [Act.put, List.setIfInBounds_toArray, List.set_cons_zero, List.set_cons_succ]
    refine wpAnyH_take (i := 1) (v := ?_) rfl (by kernel_rfl) (by kernel_rfl) (by kernel_rfl) (fun _ _ _ h => h) (Or.inl ⟨by rfl, ?_⟩) (by assumption) ?_
    rotate_left 1
    · (intro w hSw; (try dsimp only at hSw); go_simp; try with_reducible rfl)
    try simp only [Act.put, List.setIfInBounds_toArray, List.set_cons_zero, List.set_cons_succ]
    refine wpAnyH_take (i := 2) (v := ?_) rfl (by kernel_rfl) (by kernel_rfl) (by kernel_rfl) (fun _ _ _ h => h) (Or.inl ⟨by rfl, ?_⟩) (by assumption) ?_
    rotate_left 1
    · (intro w hSw; (try dsimp only at hSw); go_simp; try with_reducible rfl)
    try simp only [Act.put, List.setIfInBounds_toArray, List.set_cons_zero, List.set_cons_succ]
    refine wpAnyH_take (i := 3) (v := ?_) rfl (by kernel_rfl) (by kernel_rfl) (by kernel_rfl) (fun _ _ _ h => h) (Or.inl ⟨by rfl, ?_⟩) (by assumption) ?_
    rotate_left 1
    · (intro w hSw; (try dsimp only at hSw); go_simp; try with_reducible rfl)
    try simp only [Act.put, List.setIfInBounds_toArray, List.set_cons_zero, List.set_cons_succ]
    refine wpAnyH_take (i := 4) (v := ?_) rfl (by kernel_rfl) (by kernel_rfl) (by kernel_rfl) (fun _ _ _ h => h) (Or.inl ⟨by rfl, ?_⟩) (by assumption) ?_
    rotate_left 1
    · (intro w hSw; (try dsimp only at hSw); go_simp; try with_reducible rfl)
    try simp only [Act.put, List.setIfInBounds_toArray, List.set_cons_zero, List.set_cons_succ]
    refine wpAnyH_take (i := 6) (v := ?_) rfl (by kernel_rfl) (by kernel_rfl) (by kernel_rfl) (fun _ _ _ h => h) (Or.inl ⟨by rfl, ?_⟩) (by assumption) ?_
    rotate_left 1
    · (intro w hSw; (try dsimp only at hSw); go_simp; try with_reducible rfl)
    try simp only [Act.put, List.setIfInBounds_toArray, List.set_cons_zero, List.set_cons_succ]
    refine wpAnyH_ready (rs := [5, 7]) (by kernel_rfl) (by simp) ?_
    refine AllReadyH.cons rfl (fun K hK => ?_) (AllReadyH.cons rfl (fun K hK => ?_) AllReadyH.nil)
    focus
      try simp only [List.getElem_toArray, List.getElem_cons_zero, List.getElem_cons_succ]
      go_simp
      refine hK.out _ _ ⟨u3, n0, n1, n2, n3, n4⟩ (fun hHeld => ?_)
      clear hK K
      try simp only [Act.put, List.setIfInBounds_toArray, List.set_cons_zero, List.set_cons_succ]
      refine wpAnyH_ready (rs := [7]) (by kernel_rfl) (by simp) ?_
      refine AllReadyH.cons rfl (fun K hK => ?_) AllReadyH.nil
      try simp only [List.getElem_toArray, List.getElem_cons_zero, List.getElem_cons_succ]
      go_simp
      go_at_call 168
      refine hC.out.mono ?_
      rintro e w3 ⟨rfl, hb3⟩
      have hD3 := Lib.hid (hD1.out.below hb3)
      have hX3 := CB.below (show CB 88 W.drew Bx _ from hX1.out) hb3 (CB.lt hX1.out)
      have v3 := CB.cell hD3.out.b3 0
      simp only [List.getElem?_cons_zero] at v3
      obtain ⟨v2, g2⟩ := hD3.out.at k (by rw [hln]; exact hk')
      rw [HYk.out] at v2
      obtain ⟨m0, m1, m2, m3, m4⟩ := XB.cells (show XB w3 Bx ⟨op, d, a, b, m⟩ from hX3)
      dsimp only at m0 m1 m2 m3 m4
      have hD4 := Lib.hid (hD3.out.put k (max yk ct))
      rw [← hYe.out, ← hT0.out] at hD4
      have hkp3 := Lib.hid (keeps_t9 (keeps_below9 (n := w.heap.size) (Bs := Bs) (t := 28) hb3 hD1.out.be.size) (keeps_cb (k := k) (v := .int .i64 (max yk ct)) hD3.out.ib (by have := hD3.out.h1; have := hD3.out.h12; omega) (by have := hD3.out.h23; have := Zb.out; omega)))
      have hz3 := Lib.hid hb3.size
      have hX4 := (Below.heap_setCell w3 ⟨p2, k, none⟩ (.int .i64 (max yk ct)) Bx (by show Bx ≠ p2; have := hD3.out.h23; have := Zb.out; omega)).trans (show w3.heap[Bx]? = _ from hX3)
      have x3 := CB.cell hD4.out.b3 0
      simp only [List.getElem?_cons_zero] at x3
      obtain ⟨l0, l1, l2, l3, l4⟩ := XB.cells (show XB (w3.setCell ⟨p2, k, none⟩ (.int .i64 (max yk ct))) Bx ⟨op, d, a, b, m⟩ from hX4)
      dsimp only at l0 l1 l2 l3 l4
      refine hK.out _ _ ⟨v3, m0, m1, m2, m3, m4⟩ (fun hHeld => ?_)
      clear hK K
      try simp only [Act.put, List.setIfInBounds_toArray, List.set_cons_zero, List.set_cons_succ]
      refine wpAnyH_take (i := 8) (v := ?_) rfl (by kernel_rfl) (by kernel_rfl) (by kernel_rfl) (fun _ _ _ h => h) (Or.inl ⟨by rfl, ?_⟩) (by assumption) ?_
      rotate_left 1
      · (intro w hSw; (try dsimp only at hSw); go_simp; try with_reducible rfl)
      try simp only [Act.put, List.setIfInBounds_toArray, List.set_cons_zero, List.set_cons_succ]
      refine wpAnyH_take (i := 9) (v := ?_) rfl (by kernel_rfl) (by kernel_rfl) (by kernel_rfl) (fun _ _ _ h => h) (Or.inl ⟨by rfl, ?_⟩) (by assumption) ?_
      rotate_left 1
      · (intro w hSw; (try dsimp only at hSw); go_simp; try with_reducible rfl)
      try simp only [Act.put, List.setIfInBounds_toArray, List.set_cons_zero, List.set_cons_succ]
      refine wpAnyH_ready (rs := [10]) (by kernel_rfl) (by simp) ?_
      refine AllReadyH.cons rfl (fun K hK => ?_) AllReadyH.nil
      try simp only [List.getElem_toArray, List.getElem_cons_zero, List.getElem_cons_succ]
      go_simp
      refine hK.out _ _ ⟨x3, l0, l1, l2, l3, l4⟩ (fun hHeld => ?_)
      clear hK K
      try simp only [Act.put, List.setIfInBounds_toArray, List.set_cons_zero, List.set_cons_succ]
      refine wpAnyH_done (by kernel_rfl) ?_ _
      try simp only [Act.put, List.setIfInBounds_toArray, List.set_cons_zero, List.set_cons_succ]
    rotate_left 1
    focus
      try simp only [List.getElem_toArray, List.getElem_cons_zero, List.getElem_cons_succ]
      go_simp
      go_at_call 168
      refine hC.out.mono ?_
      rintro e w3 ⟨rfl, hb3⟩
      have hD3 := Lib.hid (hD1.out.below hb3)
      have hX3 := CB.below (show CB 88 W.drew Bx _ from hX1.out) hb3 (CB.lt hX1.out)
      have v3 := CB.cell hD3.out.b3 0
      simp only [List.getElem?_cons_zero] at v3
      obtain ⟨v2, g2⟩ := hD3.out.at k (by rw [hln]; exact hk')
      rw [HYk.out] at v2
      obtain ⟨m0, m1, m2, m3, m4⟩ := XB.cells (show XB w3 Bx ⟨op, d, a, b, m⟩ from hX3)
      dsimp only at m0 m1 m2 m3 m4
      have hD4 := Lib.hid (hD3.out.put k (max yk ct))
      rw [← hYe.out, ← hT0.out] at hD4
      have hkp3 := Lib.hid (keeps_t9 (keeps_below9 (n := w.heap.size) (Bs := Bs) (t := 28) hb3 hD1.out.be.size) (keeps_cb (k := k) (v := .int .i64 (max yk ct)) hD3.out.ib (by have := hD3.out.h1; have := hD3.out.h12; omega) (by have := hD3.out.h23; have := Zb.out; omega)))
      have hz3 := Lib.hid hb3.size
      have hX4 := (Below.heap_setCell w3 ⟨p2, k, none⟩ (.int .i64 (max yk ct)) Bx (by show Bx ≠ p2; have := hD3.out.h23; have := Zb.out; omega)).trans (show w3.heap[Bx]? = _ from hX3)
      have x3 := CB.cell hD4.out.b3 0
      simp only [List.getElem?_cons_zero] at x3
      obtain ⟨l0, l1, l2, l3, l4⟩ := XB.cells (show XB (w3.setCell ⟨p2, k, none⟩ (.int .i64 (max yk ct))) Bx ⟨op, d, a, b, m⟩ from hX4)
      dsimp only at l0 l1 l2 l3 l4
      refine hK.out _ _ ⟨v3, m0, m1, m2, m3, m4⟩ (fun hHeld => ?_)
      clear hK K
      try simp only [Act.put, List.setIfInBounds_toArray, List.set_cons_zero, List.set_cons_succ]
      refine wpAnyH_ready (rs := [5]) (by kernel_rfl) (by simp) ?_
      refine AllReadyH.cons rfl (fun K hK => ?_) AllReadyH.nil
      try simp only [List.getElem_toArray, List.getElem_cons_zero, List.getElem_cons_succ]
      go_simp
      refine hK.out _ _ ⟨v3, m0, m1, m2, m3, m4⟩ (fun hHeld => ?_)
      clear hK K
      try simp only [Act.put, List.setIfInBounds_toArray, List.set_cons_zero, List.set_cons_succ]
      refine wpAnyH_take (i := 8) (v := ?_) rfl (by kernel_rfl) (by kernel_rfl) (by kernel_rfl) (fun _ _ _ h => h) (Or.inl ⟨by rfl, ?_⟩) (by assumption) ?_
      rotate_left 1
      · (intro w hSw; (try dsimp only at hSw); go_simp; try with_reducible rfl)
      try simp only [Act.put, List.setIfInBounds_toArray, List.set_cons_zero, List.set_cons_succ]
      refine wpAnyH_take (i := 9) (v := ?_) rfl (by kernel_rfl) (by kernel_rfl) (by kernel_rfl) (fun _ _ _ h => h) (Or.inl ⟨by rfl, ?_⟩) (by assumption) ?_
      rotate_left 1
      · (intro w hSw; (try dsimp only at hSw); go_simp; try with_reducible rfl)
      try simp only [Act.put, List.setIfInBounds_toArray, List.set_cons_zero, List.set_cons_succ]
      refine wpAnyH_ready (rs := [10]) (by kernel_rfl) (by simp) ?_
      refine AllReadyH.cons rfl (fun K hK => ?_) AllReadyH.nil
      try simp only [List.getElem_toArray, List.getElem_cons_zero, List.getElem_cons_succ]
      go_simp
      refine hK.out _ _ ⟨x3, l0, l1, l2, l3, l4⟩ (fun hHeld => ?_)
      clear hK K
      try simp only [Act.put, List.setIfInBounds_toArray, List.set_cons_zero, List.set_cons_succ]
      refine wpAnyH_done (by kernel_rfl) ?_ _
      try simp only [Act.put, List.setIfInBounds_toArray, List.set_cons_zero, List.set_cons_succ]
    -- REGION 5 END
    all_goals
      dsimp only [OnlyN]
      clear u3 u2 f2 n0 n1 n2 n3 n4 v3 v2 g2 m0 m1 m2 m3 m4 hX3 hD3 hD1 hX1 hC hS0 hX4 x3 l0 l1 l2 l3 l4
      have hWB6 := Lib.hid (show Bs + 1 ≤ (w3.setCell ⟨p2, k, none⟩ (.int .i64 (max yk ct))).heap.size by rw [World.size_setCell]; exact Nat.le_trans hWBh.out hz3.out)
      have hkA := Lib.hid (keeps_t9 hkp1.out hkp3.out)
      clear hkp1 hkp3 hb3 hz3
      generalize w3.setCell ⟨p2, k, none⟩ (.int .i64 (max yk ct)) = W6 at *
      have q1 := CB.cell hD4.out.pb 1
      simp only [List.getElem?_cons_zero, List.getElem?_cons_succ] at q1
      have hi2 : k < (nds cs).length := by rw [nds_len]; exact hk'
      obtain ⟨bn, rfl, ⟨_, hbB⟩, hcells⟩ := hPN.out W6 hD4.out.be (by omega)
      obtain ⟨Ai, ci, r0, hrs⟩ := hcells k hi2
      rw [nds_at] at r0 hrs
      have hRS := Lib.hid fun (W7 : World) (h : Below w.heap.size W6 W7) => hrs.below h hBN.out
      clear hcells hrs hi2
      generalize hHT : hgT cs xs k = HT9 at *
      generalize ndL cs k cs.length = ns at *
      obtain ⟨vv, hvv⟩ : ∃ vv, vv = max yk ct := ⟨_, rfl⟩
      have hvb : 0 ≤ vv ∧ vv ≤ 84 := by omega
      have HVv := Lib.hid hvv
      rw [← hvv] at hTo hTs
      have hnsl : ns.length ≤ 20 := by omega
      clear hvv hgd hcb hHT
      gi_wp2
      clear q1 r0
      gi_loopw [33] (fun q wq => ∃ t : Nat, t ≤ ns.length ∧ q = .int .i64 t ∧ HG w wq p1 p2 p3 (.slice A cs.length c) (.slice (some ⟨bn, 0, none⟩) cs.length cn) cs.length (HT9 t) ∧ (KeepsOthers W wq ∧ KpB w.heap.size Bs 28 W wq) ∧ Bs + 1 ≤ wq.heap.size ∧ Below w.heap.size W6 wq) (fun q _ => ns.length - (intOf q).toNat)
      case atStart => exact ⟨0, Nat.zero_le _, rfl, hD4.out, hkA.out, hWB6.out, Below.refl _ _⟩
      case round =>
        clear hkA hWB6 hD4
        obtain ⟨t, ht, rfl, hg, hkq, hz, hbq⟩ := hrel
        have hG := Lib.hid hg
        have hKq := Lib.hid hkq
        have hZq := Lib.hid hz
        have hBq := Lib.hid hbq
        clear hg hkq hz hbq
        by_cases hlt : t < ns.length
        · obtain ⟨rb, ro, rfl, hrb, c0, c1⟩ := nd_cells (hRS.out wr hBq.out) hlt
          obtain ⟨⟨q, hq1, hqk⟩, hd0, hd4⟩ := hNd.out _ (List.getElem_mem hlt)
          have hS := hTs.out t hlt
          unfold hstep at hS
          rw [hq1] at c0 hS
          rw [Int.toNat_natCast] at hS
          have hti : (t : Int) < (ns.length : Int) := by omega
          have ht0 : (0 : Int) ≤ (t : Int) := by omega
          have hqi : (q : Int) < (cs.length : Int) := by omega
          have hq0 : (0 : Int) ≤ (q : Int) := by omega
          have hqn : q < cs.length := by omega
          generalize ns[t].2 = dd at *
          have hSt := Lib.hid hS
          clear hS hq1
          have hw9 : IntKind.i64.wrap (dd + vv) = dd + vv := IntWalk.i64_in _ (by omega)
          have ha := (Below.refl wr.heap.size wr).alloc (Nat.le_refl _) (.cells #[.int .i64 q, .int .i64 dd] 155)
          have hDn := Lib.hid (hG.out.below ha).drew
          have hkn := Lib.hid (keeps_t9 hKq.out (keeps_t9 (keeps_below9 (n := w.heap.size) (Bs := Bs) (t := 28) ha hG.out.be.size) (keeps_drew9 _)))
          have hX : CB 155 (wr.alloc (.cells #[.int .i64 q, .int .i64 dd] 155)).drew wr.heap.size [.int .i64 q, .int .i64 dd] := heap_alloc_new wr _
          have hXh := Lib.hid hX
          have hbn := Lib.hid (hBq.out.trans ((ha.mono hG.out.be.size).drew))
          have hzn := Lib.hid (Nat.le_trans hZq.out (Nat.le_trans ha.size (Nat.le_refl (wr.alloc (.cells #[.int .i64 q, .int .i64 dd] 155)).drew.heap.size)))
          clear ha hX
          gi_wp2
          obtain ⟨gx, hgx⟩ : ∃ gx, gx = wr.heap.size := ⟨_, rfl⟩
          have hgp : Hid (gx ≠ p2) := by rw [Hid, hgx]; have := CB.lt hG.out.ib; omega
          rw [← hgx] at hXh ⊢
          have Hgx := Lib.hid hgx
          clear hgx c0 c1
          have d3 := CB.cell hDn.out.b3 0
          have e0 := CB.cell hXh.out 0
          have e1 := CB.cell hXh.out 1
          simp only [List.getElem?_cons_zero, List.getElem?_cons_succ] at d3 e0 e1
          obtain ⟨dk, _⟩ := hDn.out.at k (by rw [hTl.out, hln]; exact hk')
          rw [hTo.out] at dk
          obtain ⟨dq, fq⟩ := hDn.out.at q (by rw [hTl.out, hln]; exact hqn)
          generalize (HT9 t).getD q 0 = yq at *
          have hDp := hDn.out.put q (max yq (dd + vv))
          rw [← hSt.out] at hDp
          have hDq := Lib.hid hDp
          clear hDp
          have hkp := Lib.hid (keeps_t9 hkn.out (keeps_cb (k := q) (v := .int .i64 (max yq (dd + vv))) hDn.out.ib (by have := hDn.out.h1; have := hDn.out.h12; omega) (by have := hDn.out.h23; have := Zb.out; omega)))
          have hbp := Lib.hid (hbn.out.setCell (p := ⟨p2, q, none⟩) (by show w.heap.size ≤ p2; have := hDn.out.h1; have := hDn.out.h12; omega) (.int .i64 (max yq (dd + vv))))
          have hzp := Lib.hid (show Bs + 1 ≤ ((wr.alloc (.cells #[.int .i64 q, .int .i64 dd] 155)).drew.setCell ⟨p2, q, none⟩ (.int .i64 (max yq (dd + vv)))).heap.size by rw [World.size_setCell]; exact hzn.out)
          have hXp : CB 155 _ gx [.int .i64 q, .int .i64 dd] := (Below.heap_setCell (wr.alloc (.cells #[.int .i64 q, .int .i64 dd] 155)).drew ⟨p2, q, none⟩ (.int .i64 (max yq (dd + vv))) gx (by show gx ≠ p2; exact hgp.out)).trans hXh.out
          have h3 := CB.cell hDq.out.b3 0
          have i0 := CB.cell hXp 0
          have i1 := CB.cell hXp 1
          simp only [List.getElem?_cons_zero, List.getElem?_cons_succ] at h3 i0 i1
          obtain ⟨ik, _⟩ := hDq.out.at k (by rw [hTl.out, hln]; exact hk')
          rw [hTo.out] at ik
          clear hXp
          generalize wr.alloc (.cells #[.int .i64 q, .int .i64 dd] 155) = Wn at *
          -- REGION 9 BEGIN
          have hS0 : (fun w' => w'.cell? ⟨p3, 0, none⟩ = some (.slice (some ⟨p2, 0, none⟩) cs.length cs.length) ∧ w'.cell? ⟨gx, 0, none⟩ = some (.int .i64 (q : Int)) ∧ w'.cell? ⟨gx, 1, none⟩ = some (.int .i64 dd) ∧ w'.cell? ⟨p2, k, none⟩ = some (.int .i64 vv)) Wn.drew := ⟨d3, e0, e1, dk⟩
          refine region_round (S := fun w' => w'.cell? ⟨p3, 0, none⟩ = some (.slice (some ⟨p2, 0, none⟩) cs.length cs.length) ∧ w'.cell? ⟨gx, 0, none⟩ = some (.int .i64 (q : Int)) ∧ w'.cell? ⟨gx, 1, none⟩ = some (.int .i64 dd) ∧ w'.cell? ⟨p2, k, none⟩ = some (.int .i64 vv)) (by kernel_rfl) (by kernel_rfl) (fun _ _ h => h) hS0 (fun hHeld => ?_)
          refine wpAnyH_take (i := 0) (v := ?_) rfl (by kernel_rfl) (by kernel_rfl) (by kernel_rfl) (fun _ _ _ h => h) (Or.inl ⟨by rfl, ?_⟩) (by assumption) ?_
          rotate_left 1
          · (intro w hSw; (try dsimp only at hSw); go_simp; try with_reducible rfl)
          try simp only [Act.put, List.setIfInBounds_toArray, List.set_cons_zero, List.set_cons_succ]
          refine wpAnyH_take (i := 1) (v := ?_) rfl (by kernel_rfl) (by kernel_rfl) (by kernel_rfl) (fun _ _ _ h => h) (Or.inl ⟨by rfl, ?_⟩) (by assumption) ?_
          rotate_left 1
          · (intro w hSw; (try dsimp only at hSw); go_simp; try with_reducible rfl)
          try simp only [Act.put, List.setIfInBounds_toArray, List.set_cons_zero, List.set_cons_succ]
          refine wpAnyH_take (i := 2) (v := ?_) rfl (by kernel_rfl) (by kernel_rfl) (by kernel_rfl) (fun _ _ _ h => h) (Or.inl ⟨by rfl, ?_⟩) (by assumption) ?_
          rotate_left 1
          · (intro w hSw; (try dsimp only at hSw); go_simp; try with_reducible rfl)
          try simp only [Act.put, List.setIfInBounds_toArray, List.set_cons_zero, List.set_cons_succ]
          refine wpAnyH_take (i := 3) (v := ?_) rfl (by kernel_rfl) (by kernel_rfl) (by kernel_rfl) (fun _ _ _ h => h) (Or.inl ⟨by rfl, ?_⟩) (by assumption) ?_
          rotate_left 1
          · (intro w hSw; (try dsimp only at hSw); go_simp; try with_reducible rfl)
          try simp only [Act.put, List.setIfInBounds_toArray, List.set_cons_zero, List.set_cons_succ]
          refine wpAnyH_take (i := 4) (v := ?_) rfl (by kernel_rfl) (by kernel_rfl) (by kernel_rfl) (fun _ _ _ h => h) (Or.inl ⟨by rfl, ?_⟩) (by assumption) ?_
          rotate_left 1
          · (intro w hSw; (try dsimp only at hSw); go_simp; try with_reducible rfl)
          try simp only [Act.put, List.setIfInBounds_toArray, List.set_cons_zero, List.set_cons_succ]
          refine wpAnyH_take (i := 5) (v := ?_) rfl (by kernel_rfl) (by kernel_rfl) (by kernel_rfl) (fun _ _ _ h => h) (Or.inl ⟨by rfl, ?_⟩) (by assumption) ?_
          rotate_left 1
          · (intro w hSw; (try dsimp only at hSw); go_simp; try with_reducible rfl)
          try simp only [Act.put, List.setIfInBounds_toArray, List.set_cons_zero, List.set_cons_succ]
          refine wpAnyH_take (i := 6) (v := ?_) rfl (by kernel_rfl) (by kernel_rfl) (by kernel_rfl) (fun _ _ _ h => h) (Or.inl ⟨by rfl, ?_⟩) (by assumption) ?_
          rotate_left 1
          · (intro w hSw; (try dsimp only at hSw); go_simp; try with_reducible rfl)
          try simp only [Act.put, List.setIfInBounds_toArray, List.set_cons_zero, List.set_cons_succ]
          refine wpAnyH_take (i := 8) (v := ?_) rfl (by kernel_rfl) (by kernel_rfl) (by kernel_rfl) (fun _ _ _ h => h) (Or.inl ⟨by rfl, ?_⟩) (by assumption) ?_
          rotate_left 1
          · (intro w hSw; (try dsimp only at hSw); go_simp; try with_reducible rfl)
          try simp only [Act.put, List.setIfInBounds_toArray, List.set_cons_zero, List.set_cons_succ]
          refine wpAnyH_take (i := 9) (v := ?_) rfl (by kernel_rfl) (by kernel_rfl) (by kernel_rfl) (fun _ _ _ h => h) (Or.inl ⟨by rfl, ?_⟩) (by assumption) ?_
          rotate_left 1
          · (intro w hSw; (try dsimp only at hSw); go_simp; try with_reducible rfl)
          try simp only [Act.put, List.setIfInBounds_toArray, List.set_cons_zero, List.set_cons_succ]
          refine wpAnyH_take (i := 10) (v := ?_) rfl (by kernel_rfl) (by kernel_rfl) (by kernel_rfl) (fun _ _ _ h => h) (Or.inl ⟨by rfl, ?_⟩) (by assumption) ?_
          rotate_left 1
          · (intro w hSw; (try dsimp only at hSw); go_simp; try with_reducible rfl)
          try simp only [Act.put, List.setIfInBounds_toArray, List.set_cons_zero, List.set_cons_succ]
          refine wpAnyH_take (i := 11) (v := ?_) rfl (by kernel_rfl) (by kernel_rfl) (by kernel_rfl) (fun _ _ _ h => h) (Or.inl ⟨by rfl, ?_⟩) (by assumption) ?_
          rotate_left 1
          · (intro w hSw; (try dsimp only at hSw); go_simp; try with_reducible rfl)
          try simp only [Act.put, List.setIfInBounds_toArray, List.set_cons_zero, List.set_cons_succ]
          refine wpAnyH_take (i := 12) (v := ?_) rfl (by kernel_rfl) (by kernel_rfl) (by kernel_rfl) (fun _ _ _ h => h) (Or.inl ⟨by rfl, ?_⟩) (by assumption) ?_
          rotate_left 1
          · (intro w hSw; (try dsimp only at hSw); go_simp; try with_reducible rfl)
          try simp only [Act.put, List.setIfInBounds_toArray, List.set_cons_zero, List.set_cons_succ]
          refine wpAnyH_take (i := 13) (v := ?_) rfl (by kernel_rfl) (by kernel_rfl) (by kernel_rfl) (fun _ _ _ h => h) (Or.inl ⟨by rfl, ?_⟩) (by assumption) ?_
          rotate_left 1
          · (intro w hSw; (try dsimp only at hSw); go_simp; try with_reducible rfl)
          try simp only [Act.put, List.setIfInBounds_toArray, List.set_cons_zero, List.set_cons_succ]
          refine wpAnyH_take (i := 14) (v := ?_) rfl (by kernel_rfl) (by kernel_rfl) (by kernel_rfl) (fun _ _ _ h => h) (Or.inl ⟨by rfl, ?_⟩) (by assumption) ?_
          rotate_left 1
          · (intro w hSw; (try dsimp only at hSw); go_simp; try with_reducible rfl)
          try simp only [Act.put, List.setIfInBounds_toArray, List.set_cons_zero, List.set_cons_succ]
          refine wpAnyH_ready (rs := [7]) (by kernel_rfl) (by simp) ?_
          refine AllReadyH.cons rfl (fun K hK => ?_) AllReadyH.nil
          try simp only [List.getElem_toArray, List.getElem_cons_zero, List.getElem_cons_succ]
          go_simp
          refine hK.out _ _ ⟨d3, e0, e1, dk⟩ (fun hHeld => ?_)
          clear hK K
          try simp only [Act.put, List.setIfInBounds_toArray, List.set_cons_zero, List.set_cons_succ]
          refine wpAnyH_take (i := 15) (v := ?_) rfl (by kernel_rfl) (by kernel_rfl) (by kernel_rfl) (fun _ _ _ h => h) (Or.inl ⟨by rfl, ?_⟩) (by assumption) ?_
          rotate_left 1
          · (intro w hSw; (try dsimp only at hSw); go_simp; try with_reducible rfl)
          try simp only [Act.put, List.setIfInBounds_toArray, List.set_cons_zero, List.set_cons_succ]
          refine wpAnyH_take (i := 16) (v := ?_) rfl (by kernel_rfl) (by kernel_rfl) (by kernel_rfl) (fun _ _ _ h => h) (Or.inl ⟨by rfl, ?_⟩) (by assumption) ?_
          rotate_left 1
          · (intro w hSw; (try dsimp only at hSw); go_simp; try with_reducible rfl)
          try simp only [Act.put, List.setIfInBounds_toArray, List.set_cons_zero, List.set_cons_succ]
          refine wpAnyH_ready (rs := [17]) (by kernel_rfl) (by simp) ?_
          refine AllReadyH.cons rfl (fun K hK => ?_) AllReadyH.nil
          try simp only [List.getElem_toArray, List.getElem_cons_zero, List.getElem_cons_succ]
          go_simp
          refine hK.out _ _ ⟨h3, i0, i1, ik⟩ (fun hHeld => ?_)
          clear hK K
          try simp only [Act.put, List.setIfInBounds_toArray, List.set_cons_zero, List.set_cons_succ]
          refine wpAnyH_done (by kernel_rfl) ?_ _
          try simp only [Act.put, List.setIfInBounds_toArray, List.set_cons_zero, List.set_cons_succ]
          -- REGION 9 END
          dsimp only [OnlyN]
          clear d3 e0 e1 dk dq fq h3 i0 i1 ik hS0
          gi_wp2
          go_roundw
          case rel => exact ⟨t + 1, by omega, by go_num, hDq.out, hkp.out, hzp.out, hbp.out⟩
          case measure => simp [intOf]; omega
        · obtain rfl : t = ns.length := by omega
          gi_wp2
          refine ⟨hKq.out.1.from _, hKq.out.2, ?_, hZq.out⟩
          rw [HP.out, hsn.out, hSe.out]; exact hG.out
  case done =>
    rintro D ys W hD rfl ⟨hHG, _⟩ hK
    rw [hgP_all] at hHG
    have hDw : w.heap.size ≤ D := Nat.le_trans B9.out.size hD
    have u3 := CB.cell hHG.b3 0
    simp only [List.getElem?_cons_zero] at u3
    have hHh := Lib.hid hHG
    have hKh := Lib.hid hK
    clear hHG hK
    gi_wp2
    have rD : ∀ r, some D = some r → w.heap.size ≤ r ∧ ∃ o : Obj, W.heap[r]? = some o ∧ o.isCells = false := fun r e => by cases e; exact ⟨hDw, _, hKh.out, rfl⟩
    have hL2 := hHh.out.kept (grownBy_putObj' W D (.deferred none)) rD
    have hib : IB (W.putObj D (.deferred none)) p2 3 (hL cs) := hL2.ib
    have hX := OW.ofIB (lo := w.heap.size) (hi := (W.putObj D (.deferred none)).heap.size) hib (by rw [hL_len]; omega) (by have := hL2.h1; have := hL2.h12; omega) (CB.lt hL2.ib)
    rw [hL_len] at hX
    refine ⟨by simp, .inl ⟨_, _, rfl, run_takeDeferred hKh.out, ?_⟩⟩
    exact ⟨_, results_tmp rfl _ _ _, some ⟨p2, 0, none⟩, cs.length, by rw [hL_len]; rfl, by rw [hL_len]; exact hX, hL2.be⟩
end Go.Proofs.Ytaaloepoegehkaa

/- Chapter 9: slices.Repeat of 101. -/
namespace Go.Proofs.Ytaaloepoegehkaa
open Go.RowKit
set_option linter.unusedVariables false
set_option maxRecDepth 100000

set_option maxHeartbeats 4000000 in
theorem mul64_one9 (n : Nat) (h1 : 1 ≤ n) (hn : n ≤ 24) (w : World) :
    Calls Try.prog 221 #[.int .u64 1, .int .u64 (n : Int)] w fun e w' => e = .returned (.tuple #[.int .u64 0, .int .u64 (n : Int)]) ∧ w = w' := by
  have hc : n = 1 ∨ n = 2 ∨ n = 3 ∨ n = 4 ∨ n = 5 ∨ n = 6 ∨ n = 7 ∨ n = 8 ∨ n = 9 ∨ n = 10 ∨ n = 11 ∨ n = 12 ∨ n = 13 ∨ n = 14 ∨ n = 15 ∨ n = 16 ∨ n = 17 ∨ n = 18 ∨ n = 19 ∨ n = 20 ∨ n = 21 ∨ n = 22 ∨ n = 23 ∨ n = 24 := by omega
  rcases hc with rfl | rfl | rfl | rfl | rfl | rfl | rfl | rfl | rfl | rfl | rfl | rfl | rfl | rfl | rfl | rfl | rfl | rfl | rfl | rfl | rfl | rfl | rfl | rfl
  all_goals
    go_enter Try.func221, Try.ntmps221
    go_wp2
    go_ret2
    exact ⟨by kernel_rfl, rfl⟩
set_option maxHeartbeats 4000000 in
theorem mul_one9 (n : Nat) (h1 : 1 ≤ n) (hn : n ≤ 24) (w : World) :
    Calls Try.prog 195 #[.int .u64 1, .int .u64 (n : Int)] w fun e w' => e = .returned (.tuple #[.int .u64 0, .int .u64 (n : Int)]) ∧ w = w' := by
  have h0 : (0 : Int) ≤ (n : Int) := by omega
  have h2 : (n : Int) ≤ 24 := by omega
  go_enter Try.func195, Try.ntmps195
  go_wp2_with (go_at_call 221; refine (mul64_one9 n h1 hn _).mono ?_; rintro e w' ⟨rfl, rfl⟩)
  go_ret2
  exact ⟨rfl, rfl⟩

/-- A block of ints of the call's own. -/
def OwnB9 (w : World) (n : Nat) (xs : List Int) (e : Ending) (w' : World) : Prop :=
  ∃ g, e = .returned (.slice (some ⟨g, 0, none⟩) n n) ∧ w.heap.size ≤ g ∧ IB w' g 3 xs ∧ Below w.heap.size w w'
theorem ib_of9 {w : World} {g : Nat} {xs : List Int} (h : w.heap[g]? = some (.cells (xs.map (Value.int .i64)).toArray 3 (0, 0))) : IB w g 3 xs := h

/-- The first f of n are 101, the others 0. -/
def rp9 (f n : Nat) : List Int := List.replicate f 101 ++ zeros (n - f)
theorem rp9_zero (n : Nat) : rp9 0 n = zeros n := by simp [rp9]
theorem rp9_all (n : Nat) : rp9 n n = List.replicate n 101 := by simp [rp9, zeros]
theorem rp9_len {f n : Nat} (h : f ≤ n) : (rp9 f n).length = n := by simp [rp9, zeros]; omega
theorem rp9_splice {f m n : Nat} (h : f + m ≤ n) : Go.splice ((rp9 f n).map (Value.int .i64)) f (List.replicate m (Value.int .i64 101)) = (rp9 (f + m) n).map (Value.int .i64) := by
  unfold Go.splice rp9 zeros
  rw [List.length_replicate]
  apply List.ext_getElem
  · simp; omega
  · intro i h1 h2
    simp only [List.map_append, List.map_replicate, List.getElem_append, List.length_replicate, List.length_take, List.length_append, List.getElem_replicate, List.getElem_take, List.getElem_drop]
    split <;> split <;> (try split) <;> (try split) <;> first | rfl | omega
set_option maxHeartbeats 8000000 in
theorem repeat9_any (b cb n : Nat) (w : World) (h1 : 1 ≤ n) (hn : n ≤ 24) (hb : w.cell? ⟨b, 0, none⟩ = some (.int .i64 101)) (hbl : b < w.heap.size) :
    Calls Try.prog 146 #[.slice (some ⟨b, 0, none⟩) 1 cb, .int .i64 (n : Int)] w (OwnB9 w n (List.replicate n 101)) := by
  obtain ⟨i0, hi0, hz0, hz1, hz2⟩ := info_parts Try.infoInt
  have hSZ : (Try.prog.info? 3).map (·.size) = some 1 := by rw [hi0]; simp [hz1]
  have hsz := Lib.hid hSZ
  clear hi0 hz0 hz1 hz2 hSZ
  have hM := Lib.hid (mul_one9 n h1 hn w)
  have hmk := run_make_ints n (by omega)
  have h0 : (0 : Int) ≤ (n : Int) := by omega
  have h24 : (n : Int) ≤ 24 := by omega
  have hI0 : Hid (w.heap.size < (w.alloc (.cells (intCells (zeros n)) 3)).heap.size) := by unfold Hid; simp
  have hG0 : Hid ((w.alloc (.cells (intCells (zeros n)) 3)).heap[w.heap.size]? = some (.cells ((rp9 0 n).map (Value.int .i64)).toArray 3 (0, 0))) := by rw [rp9_zero]; exact heap_alloc_new w _
  have hbx := Lib.hid ((Below.refl w.heap.size w).alloc (Nat.le_refl _) (.cells (intCells (zeros n)) 3))
  have hsb := Lib.hid ((hbx.out.cell (p := ⟨b, 0, none⟩) hbl).trans hb)
  go_enter Try.func146, Try.ntmps146
  go_wp2_with (fail)
  refine hM.out.mono ?_
  rintro e w1 ⟨rfl, rfl⟩
  have hn1 : (([Value.int .i64 101] : List Value)).length = Nat.min 1 n := by rw [show Nat.min 1 n = 1 from Nat.min_eq_left h1]; rfl
  have hN1 := Lib.hid hn1
  have hNL := Lib.hid (rp9_len (f := 0) (n := n) (by omega))
  clear hn1
  have hpos : ∀ j v, ([Value.int .i64 101] : List Value)[j]? = some v → (w.alloc (.cells (intCells (zeros n)) 3)).cell? ((⟨b, 0, none⟩ : Addr).add j) = some v := by
    intro j v hj
    cases j with
    | zero => simp only [List.getElem?_cons_zero, Option.some.injEq] at hj; subst hj; exact hsb.out
    | succ j => simp at hj
  have hPos := Lib.hid hpos
  have hFit := Lib.hid (show 0 + ([Value.int .i64 101] : List Value).length ≤ ((rp9 0 n).map (Value.int .i64)).length by rw [List.length_map, hNL.out]; simpa using h1)
  have hOne := Lib.hid (show ∀ v ∈ ([Value.int .i64 101] : List Value), v.oneCell' = true from fun v hv => by simp at hv; subst hv; rfl)
  clear hpos hNL
  go_wp2_with ((with_reducible refine wpList_copy_splice rfl (.tmp 31) (.tmp 32) 34 34 rfl 3 Try.underlying34 hsz.out (some ⟨w.heap.size, 0, none⟩) (some ⟨b, 0, none⟩) n n 1 cb rfl rfl w.heap.size 0 ((rp9 0 n).map (Value.int .i64)) 3 hG0.out [Value.int .i64 101] hN1.out (fun _ => ⟨rfl, ⟨b, 0, none⟩, rfl, hPos.out⟩) hFit.out hOne.out w.heap.size w hbx.out (Nat.le_refl _) ?_); intro w1 hw1 hbel1)
  have hF1 : Hid (IB w1 w.heap.size 3 (rp9 1 n)) := by
    have h := hw1.out
    rw [show ([Value.int .i64 101] : List Value) = List.replicate 1 (Value.int .i64 101) from rfl, rp9_splice (by omega)] at h
    exact ib_of9 h
  have hB1 := Lib.hid hbel1
  clear hw1 hbel1 hmk
  generalize hgg : w.heap.size = g at *
  have hgg2 := Lib.hid hgg
  clear hgg
  go_wp2_with (fail)
  go_loopw [8] (fun q wr => ∃ f : Nat, 1 ≤ f ∧ f ≤ n ∧ q = .int .i64 f ∧ IB wr g 3 (rp9 f n) ∧ Below g w wr) (fun q _ => n - (intOf q).toNat)
  case atStart => exact ⟨1, Nat.le_refl _, h1, rfl, hF1.out, hB1.out⟩
  case round =>
    obtain ⟨f, hf1, hfn, rfl, hib, hbel⟩ := hrel
    have hIB := Lib.hid hib
    have hBL := Lib.hid hbel
    clear hib hbel
    by_cases hlt : f < n
    · have hfi : (f : Int) < (n : Int) := by omega
      have hf0 : (0 : Int) ≤ (f : Int) := by omega
      have hfle : (f : Int) ≤ (n : Int) := by omega
      have hne : ¬ f = n := by omega
      have hne' : ¬ n = f := by omega
      obtain ⟨m, hm⟩ : ∃ m, m = Nat.min f (n - f) := ⟨_, rfl⟩
      have hmf : m ≤ f := by rw [hm]; exact Nat.min_le_left _ _
      have hmn : f + m ≤ n := by have : m ≤ n - f := by rw [hm]; exact Nat.min_le_right _ _
                                 omega
      have hm1 : 1 ≤ m := by rw [hm]; exact Nat.le_min.2 ⟨hf1, by omega⟩
      have hRow : Hid (wr.drew.heap[g]? = some (.cells ((rp9 f n).map (Value.int .i64)).toArray 3 (0, 0))) := hIB.out
      have hBd := Lib.hid hBL.out.drew
      have hCells := hIB.out.cell
      have hPos := Lib.hid (show ∀ j v, (List.replicate m (Value.int .i64 101))[j]? = some v → wr.drew.cell? ((⟨g, 0, none⟩ : Addr).add j) = some v from by
        intro j v hj
        rw [List.getElem?_replicate] at hj
        split at hj
        · rename_i hjm
          injection hj with hj; subst hj
          have hx := hCells j (by rw [rp9_len hfn]; omega)
          have hy : (rp9 f n)[j]'(by rw [rp9_len hfn]; omega) = 101 := by
            unfold rp9
            rw [List.getElem_append_left (by simp; omega), List.getElem_replicate]
          rw [hy] at hx
          unfold Addr.add; split
          · rename_i h0; subst h0; exact hx
          · simpa using hx
        · cases hj)
      have hLm := Lib.hid (show (List.replicate m (Value.int .i64 101)).length = Nat.min f (n - f) by rw [List.length_replicate]; exact hm)
      have hFit := Lib.hid (show f + (List.replicate m (Value.int .i64 101)).length ≤ ((rp9 f n).map (Value.int .i64)).length by rw [List.length_replicate, List.length_map, rp9_len hfn]; exact hmn)
      have hOne := Lib.hid (show ∀ v ∈ List.replicate m (Value.int .i64 101), v.oneCell' = true from fun v hv => by rw [List.eq_of_mem_replicate hv]; rfl)
      have hwf := Lib.hid (show IntKind.i64.wrap ((f : Int) + (m : Int)) = ((f + m : Nat) : Int) by rw [IntKind.wrap_i64]; omega)
      have hGe := Lib.hid (Nat.le_refl g)
      have hSp := Lib.hid (rp9_splice hmn)
      have hLr := Lib.hid (show (List.replicate m (Value.int .i64 101)).length = m from List.length_replicate)
      clear hCells hm
      generalize hcs : List.replicate m (Value.int .i64 101) = cs at *
      have hcs2 := Lib.hid hcs
      clear hcs
      generalize hrow : (rp9 f n).map (Value.int .i64) = cur at *
      have hrow2 := Lib.hid hrow
      clear hrow
      go_wp2_with (fail)
      go_region_law (refine step_copy_splice rfl (.tmp 41) (.tmp 44) 34 34 rfl 3 Try.underlying34 hsz.out (some ⟨g, f, none⟩) (some ⟨g, 0, none⟩) (n - f) (n - f) f n (by simp [Act.eval, Act.put]) (by simp [Act.eval, Act.put]) g f cur 3 hRow.out cs hLm.out (fun _ => ⟨rfl, ⟨g, 0, none⟩, rfl, hPos.out⟩) hFit.out hOne.out g w hBd.out hGe.out ?_; intro w4 hg4 hb4)
      all_goals
        have hI4 : Hid (IB w4 g 3 (rp9 (f + m) n)) := by
          have h := hg4.out
          rw [hSp.out] at h
          exact ib_of9 h
        have hB4 := Lib.hid hb4
        clear hg4 hb4
        have hLr2 := hLr.out
        go_simp
        go_wp2
        go_roundw
        case rel => exact ⟨f + m, by omega, by omega, by rw [hwf.out], hI4.out, hB4.out⟩
        case measure => rw [hwf.out]; simp [intOf]; omega
    · obtain rfl : f = n := by omega
      go_wp2
      go_ret
      exact ⟨g, rfl, by rw [hgg2.out]; exact Nat.le_refl _, by rw [← rp9_all]; exact hIB.out, by rw [hgg2.out]; exact hBL.out⟩

set_option maxHeartbeats 4000000 in
theorem mul_zero9 (w : World) :
    Calls Try.prog 195 #[.int .u64 1, .int .u64 0] w fun e w' => e = .returned (.tuple #[.int .u64 0, .int .u64 0]) ∧ w = w' := by
  have H : Hid (∀ w, Calls Try.prog 221 #[.int .u64 1, .int .u64 0] w fun e w' => e = .returned (.tuple #[.int .u64 0, .int .u64 0]) ∧ w = w') := by
    intro w
    go_enter Try.func221, Try.ntmps221
    go_wp2
    go_ret2
    exact ⟨by kernel_rfl, rfl⟩
  go_enter Try.func195, Try.ntmps195
  go_wp2_with (go_at_call 221; refine (H.out _).mono ?_; rintro e w' ⟨rfl, rfl⟩)
  go_ret2
  exact ⟨rfl, rfl⟩
end Go.Proofs.Ytaaloepoegehkaa

/- Chapter 9: slices.Repeat, no times. -/
namespace Go.Proofs.Ytaaloepoegehkaa
open Go.RowKit
set_option linter.unusedVariables false
set_option maxRecDepth 100000

set_option maxHeartbeats 8000000 in
theorem repeat9_zero (b cb : Nat) (w : World) (hb : w.cell? ⟨b, 0, none⟩ = some (.int .i64 101)) (hbl : b < w.heap.size) :
    Calls Try.prog 146 #[.slice (some ⟨b, 0, none⟩) 1 cb, .int .i64 0] w (OwnB9 w 0 []) := by
  obtain ⟨i0, hi0, hz0, hz1, hz2⟩ := info_parts Try.infoInt
  have hSZ : (Try.prog.info? 3).map (·.size) = some 1 := by rw [hi0]; simp [hz1]
  have hsz := Lib.hid hSZ
  clear hi0 hz0 hz1 hz2 hSZ
  have hM := Lib.hid (mul_zero9 w)
  have hmk : ∀ W : World, (Instr.makeSlice 34 (.int .i64 0) (.int .i64 0)).run Try.prog W = .ok (.slice (some ⟨W.heap.size, 0, none⟩) 0 0) (W.alloc (.cells (intCells (zeros 0)) 3)) := fun W => run_make_ints 0 (by omega) W
  have hG0 : Hid ((w.alloc (.cells (intCells (zeros 0)) 3)).heap[w.heap.size]? = some (.cells (([] : List Int).map (Value.int .i64)).toArray 3 (0, 0))) := heap_alloc_new w _
  have hbx := Lib.hid ((Below.refl w.heap.size w).alloc (Nat.le_refl _) (.cells (intCells (zeros 0)) 3))
  go_enter Try.func146, Try.ntmps146
  go_wp2_with (fail)
  refine hM.out.mono ?_
  rintro e w1 ⟨rfl, rfl⟩
  have hF1 : Hid (IB (w.alloc (.cells (intCells (zeros 0)) 3)) w.heap.size 3 []) := heap_alloc_new w _
  have hB1 := hbx
  go_wp2_with (with_reducible refine wpList_copy_nothing rfl (.tmp 31) (.tmp 32) 34 34 rfl 3 Try.underlying34 hsz.out (some ⟨w.heap.size, 0, none⟩) (some ⟨b, 0, none⟩) 0 0 1 cb rfl rfl (by decide) ?_)
  clear hmk hG0
  go_wp2_with (fail)
  go_loopw [8] (fun q wr => q = .int .i64 0 ∧ IB wr w.heap.size 3 [] ∧ Below w.heap.size w wr) (fun q _ => 0)
  case atStart => exact ⟨rfl, hF1.out, hB1.out⟩
  case round =>
    obtain ⟨rfl, hib, hbel⟩ := hrel
    have hIB := Lib.hid hib
    have hBL := Lib.hid hbel
    clear hib hbel hF1 hB1
    go_wp2
    go_ret
    exact ⟨_, rfl, Nat.le_refl _, hIB.out, hBL.out⟩
theorem repeat9_k (b cb n : Nat) (w : World) (hn : n ≤ 24) (hb : w.cell? ⟨b, 0, none⟩ = some (.int .i64 101)) (hbl : b < w.heap.size) :
    Calls Try.prog 146 #[.slice (some ⟨b, 0, none⟩) 1 cb, .int .i64 (n : Int)] w (OwnB9 w n (List.replicate n 101)) := by
  rcases Nat.eq_zero_or_pos n with rfl | h1
  · exact repeat9_zero b cb w hb hbl
  · exact repeat9_any b cb n w h1 hn hb hbl
end Go.Proofs.Ytaaloepoegehkaa

/- Chapter 9: what lies in the boxes of listSchedule. -/
namespace Go.Proofs.Ytaaloepoegehkaa
open Go.RowKit
set_option linter.unusedVariables false
set_option maxRecDepth 100000

theorem CB.chgA {t : TypeId} {w w' : World} {g lo hi : Nat} {cur : List Value} (h : CB t w g cur) (hc : Chg lo hi w w') (hd : g < lo ∨ hi ≤ g) : CB t w' g cur := (hc.block g h.lt hd).trans h
theorem CB.far9 {t : TypeId} {w : World} {g q k : Nat} {v : Value} {cur : List Value} (h : CB t w q cur) (hne : q ≠ g) : CB t (w.setCell ⟨g, k, none⟩ v) q cur :=
  (Below.heap_setCell w ⟨g, k, none⟩ v q (by show q ≠ g; exact hne)).trans h
theorem IS.far9 {w : World} {L B g k : Nat} {v : Value} {A : Option Addr} {xs : List Int} (h : IS w L B A xs) (hd : g < L ∨ B ≤ g) : IS (w.setCell ⟨g, k, none⟩ v) L B A xs :=
  h.keep fun p h1 h2 => World.cell?_of_block (w := w) (Below.heap_setCell w ⟨g, k, none⟩ v p.block (by show p.block ≠ g; omega))
def chB (g2 g5 g6 g7 : Nat) : List Value := [.func (.func 148) #[] #[.pointer (some ⟨g5, 0, none⟩), .pointer (some ⟨g2, 0, none⟩), .pointer (some ⟨g7, 0, none⟩)], .func (.func 150) #[] #[.pointer (some ⟨g6, 0, none⟩)]]
/-- What lies in the boxes of listSchedule. -/
structure LsG (w0 : World) (g2 g5 g6 g7 g8 gx L1 B1 Lh Bh : Nat) (A An Ah : Option Addr) (c cn ch : Nat) (cs : List In) (cyc : List Int) (now : Int) (W : World) : Prop where
  st : LsSt g2 g5 g6 g7 L1 B1 gx (gx + 1) Lh Bh A An (some ⟨gx, 0, none⟩) Ah c cn cs.length ch cs (hL cs) cyc now W
  ib : IB W gx 3 cyc
  b8 : CB 160 W g8 (chB g2 g5 g6 g7)
  be : Below w0.heap.size w0 W
/-- How the boxes lie apart. -/
structure LsA (w0 : World) (g2 g5 g6 g7 g8 gx B1 Lh Bh : Nat) : Prop where
  l7 : w0.heap.size ≤ g7
  lx : w0.heap.size ≤ gx
  b1 : B1 ≤ g7
  bx : B1 ≤ gx
  hx : gx < Lh ∨ Bh ≤ gx
  h7 : g7 < Lh ∨ Bh ≤ g7
  x2 : g2 ≠ gx
  x5 : g5 ≠ gx
  x6 : g6 ≠ gx
  x7 : g7 ≠ gx
  x8 : g8 ≠ gx
  s2 : g2 ≠ g7
  s5 : g5 ≠ g7
  s6 : g6 ≠ g7
  s8 : g8 ≠ g7
theorem LsG.below {w0 : World} {g2 g5 g6 g7 g8 gx L1 B1 Lh Bh : Nat} {A An Ah : Option Addr} {c cn ch : Nat} {cs : List In} {cyc : List Int} {now : Int} {W W' : World} (h : LsG w0 g2 g5 g6 g7 g8 gx L1 B1 Lh Bh A An Ah c cn ch cs cyc now W) (hb : Below W.heap.size W W') :
    LsG w0 g2 g5 g6 g7 g8 gx L1 B1 Lh Bh A An Ah c cn ch cs cyc now W' :=
  ⟨h.st.below hb, h.ib.below hb h.ib.lt, CB.below h.b8 hb h.b8.lt, h.be.trans (hb.mono h.be.size)⟩
theorem LsG.put {w0 : World} {g2 g5 g6 g7 g8 gx L1 B1 Lh Bh : Nat} {A An Ah : Option Addr} {c cn ch : Nat} {cs : List In} {cyc : List Int} {now : Int} {W : World} (ha : LsA w0 g2 g5 g6 g7 g8 gx B1 Lh Bh) (h : LsG w0 g2 g5 g6 g7 g8 gx L1 B1 Lh Bh A An Ah c cn ch cs cyc now W) (i : Nat) (x : Int) :
    LsG w0 g2 g5 g6 g7 g8 gx L1 B1 Lh Bh A An Ah c cn ch cs (cyc.set i x) now (W.setCell ⟨gx, i, none⟩ (.int .i64 x)) := by
  have hs : (W.setCell ⟨gx, i, none⟩ (.int .i64 x)).heap.size = W.heap.size := World.size_setCell _ _ _
  have hi := h.ib.set i x
  have hb : Below gx W (W.setCell ⟨gx, i, none⟩ (.int .i64 x)) := (Below.refl gx W).setCell (p := ⟨gx, i, none⟩) (Nat.le_refl _) _
  exact ⟨⟨CB.far9 h.st.b2 ha.x2, CB.far9 h.st.b5 ha.x5, CB.far9 h.st.b6 ha.x6, CB.far9 h.st.b7 ha.x7, h.st.pn.below hb ha.bx, by rw [hs]; exact h.st.hB, hi.toIS, by rw [hs]; exact h.st.hB', h.st.ih.far9 ha.hx, by rw [hs]; exact h.st.hBh⟩, hi, CB.far9 h.b8 ha.x8, h.be.setCell (p := ⟨gx, i, none⟩) ha.lx _⟩
theorem LsG.tick {w0 : World} {g2 g5 g6 g7 g8 gx L1 B1 Lh Bh : Nat} {A An Ah : Option Addr} {c cn ch : Nat} {cs : List In} {cyc : List Int} {now : Int} {W : World} (ha : LsA w0 g2 g5 g6 g7 g8 gx B1 Lh Bh) (h : LsG w0 g2 g5 g6 g7 g8 gx L1 B1 Lh Bh A An Ah c cn ch cs cyc now W) (x : Int) :
    LsG w0 g2 g5 g6 g7 g8 gx L1 B1 Lh Bh A An Ah c cn ch cs cyc x (W.setCell ⟨g7, 0, none⟩ (.int .i64 x)) := by
  have hs : (W.setCell ⟨g7, 0, none⟩ (.int .i64 x)).heap.size = W.heap.size := World.size_setCell _ _ _
  have hi : IB (W.setCell ⟨g7, 0, none⟩ (.int .i64 x)) gx 3 cyc := (Below.heap_setCell W ⟨g7, 0, none⟩ (.int .i64 x) gx (by show gx ≠ g7; exact fun e => ha.x7 e.symm)).trans h.ib
  have hb : Below g7 W (W.setCell ⟨g7, 0, none⟩ (.int .i64 x)) := (Below.refl g7 W).setCell (p := ⟨g7, 0, none⟩) (Nat.le_refl _) _
  exact ⟨⟨CB.far9 h.st.b2 ha.s2, CB.far9 h.st.b5 ha.s5, CB.far9 h.st.b6 ha.s6, CB.set h.st.b7 0 _, h.st.pn.below hb ha.b1, by rw [hs]; exact h.st.hB, hi.toIS, by rw [hs]; exact h.st.hB', h.st.ih.far9 ha.h7, by rw [hs]; exact h.st.hBh⟩, hi, CB.far9 h.b8 ha.s8, h.be.setCell (p := ⟨g7, 0, none⟩) ha.l7 _⟩
end Go.Proofs.Ytaaloepoegehkaa

/- Chapter 9, plain: the order of a schedule, by insertion. -/
namespace Go.Proofs.Ytaaloepoegehkaa
open Go.RowKit
set_option linter.unusedVariables false
set_option maxRecDepth 100000

def kyO (xs : List Int) (q : Int) : Int := xs.getD q.toNat 0
def leO (xs : List Int) (i : Nat) (q : Int) : Bool := decide (kyO xs q ≤ kyO xs i)
def insO (xs out : List Int) (i : Nat) : List Int := out.takeWhile (leO xs i) ++ (i : Int) :: out.dropWhile (leO xs i)
def osL (xs : List Int) : Nat → List Int
  | 0 => []
  | m + 1 => insO xs (osL xs m) m
theorem tw_take {p : Int → Bool} : ∀ {l : List Int} {k : Nat}, k ≤ l.length → (∀ q (h : q < l.length), q < k → p l[q] = true) → (∀ (h : k < l.length), p l[k] = false) → l.takeWhile p = l.take k ∧ l.dropWhile p = l.drop k
  | [], k, hk, _, _ => by
    obtain rfl : k = 0 := by simpa using hk
    simp
  | x :: l, 0, _, _, h2 => by
    have := h2 (by simp)
    simp at this
    simp [this]
  | x :: l, k + 1, hk, h1, h2 => by
    have hx := h1 0 (by simp) (by omega)
    simp only [List.getElem_cons_zero] at hx
    have ih := tw_take (p := p) (l := l) (k := k) (by simpa using hk) (fun q h hq => by have := h1 (q + 1) (by simpa using h) (by omega); simpa using this) (fun h => by have := h2 (by simpa using h); simpa using this)
    simp [hx, ih.1, ih.2]
theorem insO_at {xs out : List Int} {i k : Nat} (hk : k ≤ out.length) (h1 : ∀ q (h : q < out.length), q < k → leO xs i out[q] = true) (h2 : ∀ (h : k < out.length), leO xs i out[k] = false) : insO xs out i = out.take k ++ (i : Int) :: out.drop k := by
  have := tw_take hk h1 h2
  unfold insO; rw [this.1, this.2]
theorem tw_mem {p : Int → Bool} : ∀ {l : List Int} {q : Int}, q ∈ l.takeWhile p → p q = true
  | [], q, h => by simp at h
  | x :: l, q, h => by
    rw [List.takeWhile_cons] at h
    split at h
    · rcases List.mem_cons.1 h with rfl | h
      · assumption
      · exact tw_mem h
    · simp at h
theorem osL_mem (xs : List Int) : ∀ m, ∀ q ∈ osL xs m, 0 ≤ q ∧ q < (m : Int)
  | 0, q, h => by simp [osL] at h
  | m + 1, q, h => by
    unfold osL insO at h
    have ih := osL_mem xs m
    rcases List.mem_append.1 h with h | h
    · have := ih q ((List.takeWhile_sublist _).subset h); omega
    · rcases List.mem_cons.1 h with rfl | h
      · omega
      · have := ih q ((List.dropWhile_sublist _).subset h); omega
theorem osL_len (xs : List Int) : ∀ m, (osL xs m).length = m
  | 0 => rfl
  | m + 1 => by
    unfold osL insO
    have ih := osL_len xs m
    have h := congrArg List.length (List.takeWhile_append_dropWhile (p := leO xs m) (l := osL xs m))
    rw [List.length_append] at h
    rw [List.length_append, List.length_cons]; omega
theorem dw_head {p : Int → Bool} : ∀ {l : List Int} {x : Int} {r : List Int}, l.dropWhile p = x :: r → p x = false
  | [], x, r, h => by simp at h
  | y :: l, x, r, h => by
    rw [List.dropWhile_cons] at h
    split at h
    · exact dw_head h
    · next hp => injection h with h1 h2; subst h1; simpa using hp
theorem osL_sorted (xs : List Int) : ∀ m, (osL xs m).Pairwise fun p q => kyO xs p ≤ kyO xs q
  | 0 => List.Pairwise.nil
  | m + 1 => by
    have ih := osL_sorted xs m
    unfold osL insO
    have hsplit := List.takeWhile_append_dropWhile (p := leO xs m) (l := osL xs m)
    rw [← hsplit, List.pairwise_append] at ih
    obtain ⟨i1, i2, i3⟩ := ih
    have hd : ∀ q ∈ (osL xs m).dropWhile (leO xs m), kyO xs m < kyO xs q := fun q hq => by
      cases hdw : (osL xs m).dropWhile (leO xs m) with
      | nil => rw [hdw] at hq; simp at hq
      | cons x r =>
        have hx := dw_head hdw
        unfold leO at hx
        have hx' := of_decide_eq_false hx
        rw [hdw] at hq i2
        rcases List.mem_cons.1 hq with rfl | hq
        · omega
        · have := (List.pairwise_cons.1 i2).1 q hq; omega
    rw [List.pairwise_append]
    refine ⟨i1, List.pairwise_cons.2 ⟨fun q hq => by have := hd q hq; omega, i2⟩, fun p hp q hq => ?_⟩
    have hp' := tw_mem hp
    unfold leO at hp'
    have hp2 := of_decide_eq_true hp'
    rcases List.mem_cons.1 hq with rfl | hq
    · exact hp2
    · exact i3 p hp q hq
theorem osL_le (xs : List Int) (m : Nat) {p q : Nat} (hq : q < (osL xs m).length) (hpq : p < q) : kyO xs ((osL xs m)[p]'(by omega)) ≤ kyO xs (osL xs m)[q] :=
  (List.pairwise_iff_getElem.1 (osL_sorted xs m)) p q (by omega) hq hpq
/-- By the program: from the right. -/
theorem osL_right {xs : List Int} {i k : Nat} (hk : k ≤ i) (h1 : ∀ q (h : q < (osL xs i).length), k ≤ q → leO xs i (osL xs i)[q] = false) (h2 : k = 0 ∨ ∃ h : k - 1 < (osL xs i).length, leO xs i (osL xs i)[k - 1] = true) : osL xs (i + 1) = (osL xs i).take k ++ (i : Int) :: (osL xs i).drop k := by
  have hl := osL_len xs i
  refine insO_at (by omega) (fun q h hq => ?_) (fun h => h1 k h (Nat.le_refl _))
  rcases h2 with rfl | ⟨h3, h4⟩
  · omega
  · rcases Nat.lt_or_ge q (k - 1) with h5 | h5
    · have := osL_le xs i h3 h5
      unfold leO at h4 ⊢
      have h6 := of_decide_eq_true h4
      exact decide_eq_true (by omega)
    · obtain rfl : q = k - 1 := by omega
      exact h4
/-- All indices, the first i in order, the next one at j. -/
def idxR (i n : Nat) : List Int := (List.range' i (n - i)).map fun (q : Nat) => (q : Int)
def dO (xs : List Int) (n i j : Nat) : List Int := ((osL xs i).take j ++ (i : Int) :: (osL xs i).drop j) ++ idxR (i + 1) n
def dS (xs : List Int) (n i : Nat) : List Int := osL xs i ++ idxR i n
theorem idxR_len (i n : Nat) : (idxR i n).length = n - i := by simp [idxR]
theorem idxR_cons {i n : Nat} (h : i < n) : idxR i n = (i : Int) :: idxR (i + 1) n := by
  unfold idxR
  rw [show n - i = (n - (i + 1)) + 1 by omega, List.range'_succ]; rfl
theorem idxR_end (n : Nat) : idxR n n = [] := by simp [idxR]
theorem dS_start {xs : List Int} {n i : Nat} (h : i < n) : dS xs n i = dO xs n i i := by
  unfold dS dO
  rw [idxR_cons h, List.take_of_length_le (by rw [osL_len]; exact Nat.le_refl _), List.drop_of_length_le (by rw [osL_len]; exact Nat.le_refl _)]; simp
theorem dS_end (xs : List Int) (n : Nat) : dS xs n n = osL xs n := by unfold dS; rw [idxR_end, List.append_nil]
theorem dS_len {xs : List Int} {n i : Nat} (h : i ≤ n) : (dS xs n i).length = n := by
  unfold dS; rw [List.length_append, osL_len, idxR_len]; omega
theorem dO_len {xs : List Int} {n i j : Nat} (h : i < n) (hj : j ≤ i) : (dO xs n i j).length = n := by
  unfold dO; simp [osL_len, idxR_len]; omega
theorem dO_at {xs : List Int} {n i j : Nat} (h : i < n) (hj : j ≤ i) : (dO xs n i j).getD j 0 = (i : Int) := by
  unfold dO
  rw [List.getD_eq_getElem?_getD, List.getElem?_append_left (by simp [osL_len]; omega), List.getElem?_append_right (by rw [List.length_take]; omega), List.length_take, osL_len, Nat.min_eq_left hj, Nat.sub_self]; rfl
theorem dO_prev {xs : List Int} {n i j : Nat} (h : i < n) (hj : j + 1 ≤ i) : (dO xs n i (j + 1)).getD j 0 = (osL xs i).getD j 0 := by
  unfold dO
  rw [List.getD_eq_getElem?_getD, List.getElem?_append_left (by simp [osL_len]; omega), List.getElem?_append_left (by simp [osL_len]; omega), List.getElem?_take_of_lt (by omega), ← List.getD_eq_getElem?_getD]
theorem dO_swap {xs : List Int} {n i j : Nat} (h : i < n) (hj : j + 1 ≤ i) : ((dO xs n i (j + 1)).set (j + 1) ((osL xs i).getD j 0)).set j (i : Int) = dO xs n i j := by
  have hl := osL_len xs i
  have hgd : (osL xs i).getD j 0 = (osL xs i)[j]'(by omega) := by rw [List.getD_eq_getElem?_getD, List.getElem?_eq_getElem (by omega)]; rfl
  rw [hgd]
  unfold dO
  apply List.ext_getElem
  · simp [hl]; omega
  · intro q h1 h2
    have hlt : (List.take (j + 1) (osL xs i)).length = j + 1 := by rw [List.length_take, hl]; omega
    have hlt2 : (List.take j (osL xs i)).length = j := by rw [List.length_take, hl]; omega
    simp only [List.getElem_set, List.getElem_append, List.length_append, List.length_cons, hlt, hlt2, List.length_drop, hl, List.getElem_take, List.getElem_cons, List.getElem_drop]
    repeat' split
    all_goals first | rfl | omega | (congr 1; omega) | skip
theorem dO_end {xs : List Int} {n i k : Nat} (h : i < n) (hk : k ≤ i) (h1 : ∀ q (h : q < (osL xs i).length), k ≤ q → leO xs i (osL xs i)[q] = false) (h2 : k = 0 ∨ ∃ h : k - 1 < (osL xs i).length, leO xs i (osL xs i)[k - 1] = true) : dO xs n i k = dS xs n (i + 1) := by
  unfold dO dS
  rw [osL_right hk h1 h2]
theorem dS_zero (xs : List Int) (n : Nat) : dS xs n 0 = idxR 0 n := rfl
theorem dS_one {xs : List Int} {n : Nat} (h : 0 < n) : dS xs n 1 = idxR 0 n := by
  rw [idxR_cons h]; rfl
end Go.Proofs.Ytaaloepoegehkaa
