import Derived.Test.YtmhdijklindipaaM
import Derived.WalkKit
import Derived.Lib.Hide
import Derived.Deep.Draws
import Derived.Laws.MakeOwn
/- Slices of nodes, lists of ints as memory. No program. -/
namespace Go.Proofs.Ytmhdijklindipaa
open Go.RowKit

/-- The slice value A of four-cell nodes reads as es; its block lies in [L, B). -/
def NS (w : World) (L B : Nat) (A : Option Addr) (es : List Nd) : Prop :=
  0 < es.length → ∃ b o, A = some ⟨b, o, none⟩ ∧ (L ≤ b ∧ b < B) ∧ ∀ i (h : i < es.length),
    w.cell? ⟨b, o + i * 4, none⟩ = some (.string es[i].op) ∧ w.cell? ⟨b, o + i * 4 + 1, none⟩ = some (.int .i64 es[i].a) ∧
    w.cell? ⟨b, o + i * 4 + 2, none⟩ = some (.int .i64 es[i].b) ∧ w.cell? ⟨b, o + i * 4 + 3, none⟩ = some (.int .i64 es[i].v)

theorem NS.keep {w w' : World} {L B : Nat} {A : Option Addr} {es : List Nd} (h : NS w L B A es) (hk : ∀ p : Addr, L ≤ p.block → p.block < B → w'.cell? p = w.cell? p) : NS w' L B A es := by
  intro hn
  obtain ⟨b, o, e, hb, hc⟩ := h hn
  exact ⟨b, o, e, hb, fun i hi => by
    obtain ⟨h1, h2, h3, h4⟩ := hc i hi
    exact ⟨(hk _ hb.1 hb.2).trans h1, (hk _ hb.1 hb.2).trans h2, (hk _ hb.1 hb.2).trans h3, (hk _ hb.1 hb.2).trans h4⟩⟩
theorem NS.below {w w' : World} {L B C : Nat} {A : Option Addr} {es : List Nd} (h : NS w L B A es) (hb : Below C w w') (hC : B ≤ C) : NS w' L B A es := h.keep fun _ _ hp => hb.cell (by omega)
theorem NS.more {w : World} {L B L' B' : Nat} {A : Option Addr} {es : List Nd} (h : NS w L B A es) (hL : L' ≤ L) (hB : B ≤ B') : NS w L' B' A es := by
  intro hn
  obtain ⟨b, o, e, hb, hc⟩ := h hn
  exact ⟨b, o, e, by omega, hc⟩

/-- A slice of ints reads as xs; its block lies in [L, B). -/
def IS (w : World) (L B : Nat) (A : Option Addr) (xs : List Int) : Prop :=
  0 < xs.length → ∃ b o, A = some ⟨b, o, none⟩ ∧ (L ≤ b ∧ b < B) ∧ ∀ i (h : i < xs.length), w.cell? ⟨b, o + i, none⟩ = some (.int .i64 xs[i])
theorem IS.keep {w w' : World} {L B : Nat} {A : Option Addr} {xs : List Int} (h : IS w L B A xs) (hk : ∀ p : Addr, L ≤ p.block → p.block < B → w'.cell? p = w.cell? p) : IS w' L B A xs := by
  intro hn
  obtain ⟨b, o, e, hb, hc⟩ := h hn
  exact ⟨b, o, e, hb, fun i hi => (hk _ hb.1 hb.2).trans (hc i hi)⟩
theorem IS.below {w w' : World} {L B C : Nat} {A : Option Addr} {xs : List Int} (h : IS w L B A xs) (hb : Below C w w') (hC : B ≤ C) : IS w' L B A xs := h.keep fun _ _ hp => hb.cell (by omega)
theorem IS.more {w : World} {L B L' B' : Nat} {A : Option Addr} {xs : List Int} (h : IS w L B A xs) (hL : L' ≤ L) (hB : B ≤ B') : IS w L' B' A xs := by
  intro hn
  obtain ⟨b, o, e, hb, hc⟩ := h hn
  exact ⟨b, o, e, by omega, hc⟩

def intCells (xs : List Int) : Array Value := (xs.map (Value.int .i64)).toArray
/-- One block known whole: ints of the element type t. -/
def IB (w : World) (g : Nat) (t : TypeId) (xs : List Int) : Prop := w.heap[g]? = some (.cells (intCells xs) t (0, 0))
theorem IB.lt {w : World} {g : Nat} {t : TypeId} {xs : List Int} (h : IB w g t xs) : g < w.heap.size := by
  rcases Nat.lt_or_ge g w.heap.size with hlt | hge
  · exact hlt
  · unfold IB at h; rw [Array.getElem?_eq_none hge] at h; cases h
theorem IB.cell {w : World} {g : Nat} {t : TypeId} {xs : List Int} (h : IB w g t xs) (i : Nat) (hi : i < xs.length) : w.cell? ⟨g, i, none⟩ = some (.int .i64 xs[i]) := by
  rw [cell_of_row w g i _ t (0, 0) h]; simp [intCells, hi]
theorem IB.frozen {w : World} {g : Nat} {t : TypeId} {xs : List Int} (h : IB w g t xs) (i : Nat) : w.frozen? ⟨g, i, none⟩ = false := by
  unfold IB at h; simp [World.frozen?, h]
theorem IB.set {w : World} {g : Nat} {t : TypeId} {xs : List Int} (h : IB w g t xs) (i : Nat) (x : Int) : IB (w.setCell ⟨g, i, none⟩ (.int .i64 x)) g t (xs.set i x) := by
  unfold IB at h ⊢
  simp [World.setCell, Array.getElem?_modify, h, intCells, List.map_set]
theorem IB.below {w w' : World} {g C : Nat} {t : TypeId} {xs : List Int} (h : IB w g t xs) (hb : Below C w w') (hg : g < C) : IB w' g t xs := (hb.block g hg).trans h
theorem IB.toIS {w : World} {g : Nat} {t : TypeId} {xs : List Int} (h : IB w g t xs) : IS w g (g + 1) (some ⟨g, 0, none⟩) xs :=
  fun _ => ⟨g, 0, rfl, by omega, fun i hi => by rw [Nat.zero_add]; exact h.cell i hi⟩

/-! ### A block of nodes known whole -/
def ndCells (es : List Nd) : Array Value := (es.flatMap Nd.cells).toArray
def NB (w : World) (g : Nat) (t : TypeId) (es : List Nd) : Prop := w.heap[g]? = some (.cells (ndCells es) t (0, 0))
theorem flat_get (es : List Nd) : ∀ (i j : Nat) (hi : i < es.length), j < 4 → (es.flatMap Nd.cells)[i * 4 + j]? = (es[i].cells)[j]? := by
  induction es with
  | nil => intro i j hi; simp at hi
  | cons a l ih =>
    intro i j hi hj
    rw [List.flatMap_cons]
    cases i with
    | zero => simp only [Nat.zero_mul, Nat.zero_add, List.getElem_cons_zero]; exact List.getElem?_append_left (by simp [Nd.cells]; omega)
    | succ i =>
      rw [List.getElem?_append_right (by simp [Nd.cells]; omega)]
      simp only [List.getElem_cons_succ]
      rw [← ih i j (by simpa using hi) hj]
      congr 1
      simp [Nd.cells]; omega
theorem ndCells_get {es : List Nd} {i : Nat} (hi : i < es.length) (j : Nat) (hj : j < 4) : (ndCells es)[i * 4 + j]? = (es[i].cells)[j]? := by
  rw [ndCells, List.getElem?_toArray]; exact flat_get es i j hi hj
theorem flat_len (es : List Nd) : (es.flatMap Nd.cells).length = es.length * 4 := by
  induction es with
  | nil => rfl
  | cons a l ih => rw [List.flatMap_cons, List.length_append, ih]; simp [Nd.cells]; omega
theorem NB.lt {w : World} {g : Nat} {t : TypeId} {es : List Nd} (h : NB w g t es) : g < w.heap.size := by
  rcases Nat.lt_or_ge g w.heap.size with hlt | hge
  · exact hlt
  · unfold NB at h; rw [Array.getElem?_eq_none hge] at h; cases h
theorem NB.cells {w : World} {g : Nat} {t : TypeId} {es : List Nd} (h : NB w g t es) (i : Nat) (hi : i < es.length) :
    w.cell? ⟨g, i * 4, none⟩ = some (.string es[i].op) ∧ w.cell? ⟨g, i * 4 + 1, none⟩ = some (.int .i64 es[i].a) ∧
    w.cell? ⟨g, i * 4 + 2, none⟩ = some (.int .i64 es[i].b) ∧ w.cell? ⟨g, i * 4 + 3, none⟩ = some (.int .i64 es[i].v) := by
  refine ⟨?_, ?_, ?_, ?_⟩
  · rw [cell_of_row w g _ _ t (0, 0) h]; exact (ndCells_get hi 0 (by omega))
  · rw [cell_of_row w g _ _ t (0, 0) h]; exact (ndCells_get hi 1 (by omega))
  · rw [cell_of_row w g _ _ t (0, 0) h]; exact (ndCells_get hi 2 (by omega))
  · rw [cell_of_row w g _ _ t (0, 0) h]; exact (ndCells_get hi 3 (by omega))
theorem NB.cells_ex {w : World} {g : Nat} {t : TypeId} {es : List Nd} (h : NB w g t es) (i : Nat) (hi : i < es.length) : ∃ s a b v,
    w.cell? ⟨g, i * 4, none⟩ = some (.string s) ∧ w.cell? ⟨g, i * 4 + 1, none⟩ = some (.int .i64 a) ∧
    w.cell? ⟨g, i * 4 + 2, none⟩ = some (.int .i64 b) ∧ w.cell? ⟨g, i * 4 + 3, none⟩ = some (.int .i64 v) := ⟨_, _, _, _, h.cells i hi⟩
theorem NB.frozen {w : World} {g : Nat} {t : TypeId} {es : List Nd} (h : NB w g t es) (i : Nat) : w.frozen? ⟨g, i, none⟩ = false := by
  unfold NB at h; simp [World.frozen?, h]
theorem NB.below {w w' : World} {g C : Nat} {t : TypeId} {es : List Nd} (h : NB w g t es) (hb : Below C w w') (hg : g < C) : NB w' g t es := (hb.block g hg).trans h
theorem NB.toNS {w : World} {g : Nat} {t : TypeId} {es : List Nd} (h : NB w g t es) : NS w g (g + 1) (some ⟨g, 0, none⟩) es :=
  fun _ => ⟨g, 0, rfl, by omega, fun i hi => by simp only [Nat.zero_add]; exact h.cells i hi⟩
def zeroNd : Nd := ⟨ByteArray.empty, 0, 0, 0⟩
theorem made_nodes (n : Nat) : madeCells #[.string ByteArray.empty, .int .i64 0, .int .i64 0, .int .i64 0] (n * 4) = ndCells (List.replicate n zeroNd) := by
  apply Array.ext
  · rw [size_madeCells, ndCells, List.size_toArray, flat_len, List.length_replicate]
  · intro k h1 h2
    simp only [size_madeCells] at h1
    have hk : k / 4 < (List.replicate n zeroNd).length := by simp; omega
    have h3 := ndCells_get hk (k % 4) (by omega)
    rw [show k / 4 * 4 + k % 4 = k by omega] at h3
    rw [Array.getElem?_eq_getElem h2, List.getElem_replicate] at h3
    have h4 : k % 4 = 0 ∨ k % 4 = 1 ∨ k % 4 = 2 ∨ k % 4 = 3 := by omega
    apply Option.some.inj
    rw [h3]
    rcases h4 with h | h | h | h <;> simp [madeCells, zeroNd, Nd.cells, h]

def setNode (w : World) (g i : Nat) (n : Nd) : World :=
  (((w.setCell ⟨g, i * 4, none⟩ (.string n.op)).setCell ⟨g, i * 4 + 1, none⟩ (.int .i64 n.a)).setCell ⟨g, i * 4 + 2, none⟩ (.int .i64 n.b)).setCell ⟨g, i * 4 + 3, none⟩ (.int .i64 n.v)
theorem ndCells_set (es : List Nd) (i : Nat) (n : Nd) (hi : i < es.length) :
    ((((ndCells es).setIfInBounds (i * 4) (.string n.op)).setIfInBounds (i * 4 + 1) (.int .i64 n.a)).setIfInBounds (i * 4 + 2) (.int .i64 n.b)).setIfInBounds (i * 4 + 3) (.int .i64 n.v) = ndCells (es.set i n) := by
  apply Array.ext
  · simp only [Array.size_setIfInBounds]; rw [ndCells, ndCells, List.size_toArray, List.size_toArray, flat_len, flat_len, List.length_set]
  · intro k h1 h2
    apply Option.some.inj
    rw [← Array.getElem?_eq_getElem h1, ← Array.getElem?_eq_getElem h2]
    have hsz : (ndCells es).size = es.length * 4 := by rw [ndCells, List.size_toArray, flat_len]
    have hk : k / 4 < es.length := by simp only [Array.size_setIfInBounds, hsz] at h1; omega
    have h3 := ndCells_get (es := es.set i n) (i := k / 4) (by rw [List.length_set]; exact hk) (k % 4) (by omega)
    have h4 := ndCells_get (es := es) (i := k / 4) hk (k % 4) (by omega)
    rw [show k / 4 * 4 + k % 4 = k by omega] at h3 h4
    rw [h3]
    simp only [Array.getElem?_setIfInBounds, Array.size_setIfInBounds, hsz]
    have h5 : k % 4 = 0 ∨ k % 4 = 1 ∨ k % 4 = 2 ∨ k % 4 = 3 := by omega
    by_cases he : k / 4 = i
    · subst he
      rw [List.getElem_set_self]
      rcases h5 with h | h | h | h
      · rw [if_neg (by omega), if_neg (by omega), if_neg (by omega), if_pos (by omega), if_pos (by omega), h]; rfl
      · rw [if_neg (by omega), if_neg (by omega), if_pos (by omega), if_pos (by omega), h]; rfl
      · rw [if_neg (by omega), if_pos (by omega), if_pos (by omega), h]; rfl
      · rw [if_pos (by omega), if_pos (by omega), h]; rfl
    · rw [if_neg (by omega), if_neg (by omega), if_neg (by omega), if_neg (by omega), h4, List.getElem_set_ne (by omega)]
theorem NB.store {w : World} {g : Nat} {t : TypeId} {es : List Nd} (h : NB w g t es) (i : Nat) (hi : i < es.length) (n : Nd) : NB (setNode w g i n) g t (es.set i n) := by
  have e := ndCells_set es i n hi
  unfold NB at h ⊢
  simp [setNode, World.setCell, Array.getElem?_modify, h, e]
theorem below_setNode {B : Nat} {a w : World} (h : Below B a w) {g : Nat} (hp : B ≤ g) (i : Nat) (n : Nd) : Below B a (setNode w g i n) :=
  (((h.setCell (p := ⟨g, i * 4, none⟩) hp _).setCell (p := ⟨g, i * 4 + 1, none⟩) hp _).setCell (p := ⟨g, i * 4 + 2, none⟩) hp _).setCell (p := ⟨g, i * 4 + 3, none⟩) hp _
end Go.Proofs.Ytmhdijklindipaa
