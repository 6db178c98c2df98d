import Derived.Test.YtmhdijklindipaaN
import Derived.WalkKit
import Derived.Lib.Hide
import Derived.Deep.AppendLies
/- Slices of elements of k cells; worlds that differ in blocks of [lo, hi) alone. No program. -/
namespace Go.Proofs.Ytmhdijklindipaa
open Go.RowKit
set_option linter.unusedVariables false

/-- w' is w with new blocks and with writes into blocks of [lo, hi) alone. -/
structure Chg (lo hi : Nat) (w w' : World) : Prop where
  os : w'.os = w.os
  tape : w'.tape = w.tape
  output : w'.output = w.output
  size : w.heap.size ≤ w'.heap.size
  block : ∀ k, k < w.heap.size → (k < lo ∨ hi ≤ k) → w'.heap[k]? = w.heap[k]?
theorem Chg.refl (lo hi : Nat) (w : World) : Chg lo hi w w := ⟨rfl, rfl, rfl, Nat.le_refl _, fun _ _ _ => rfl⟩
theorem Chg.trans {lo hi : Nat} {a b c : World} (h : Chg lo hi a b) (k : Chg lo hi b c) : Chg lo hi a c :=
  ⟨k.os.trans h.os, k.tape.trans h.tape, k.output.trans h.output, Nat.le_trans h.size k.size, fun i hi hn => (k.block i (Nat.lt_of_lt_of_le hi h.size) hn).trans (h.block i hi hn)⟩
theorem Chg.more {lo hi lo' hi' : Nat} {w w' : World} (h : Chg lo hi w w') (h1 : lo' ≤ lo) (h2 : hi ≤ hi') : Chg lo' hi' w w' :=
  ⟨h.os, h.tape, h.output, h.size, fun i hi hn => h.block i hi (by omega)⟩
theorem Chg.ofBelow {lo hi : Nat} {w w' : World} (h : Below w.heap.size w w') : Chg lo hi w w' := ⟨h.os, h.tape, h.output, h.size, fun i hi _ => h.block i hi⟩
theorem Chg.ofGrown {lo hi : Nat} {w w' : World} {row : Option Nat} (h : w.grownBy w' row) (hr : ∀ k, row = some k → lo ≤ k ∧ k < hi) : Chg lo hi w w' :=
  ⟨h.os, h.tape, h.output, h.size, fun i hi hn => h.block i hi (fun e => by have := hr i e.symm; omega)⟩
theorem Chg.setCell {lo hi : Nat} {w w' : World} (h : Chg lo hi w w') {p : Addr} (hp : lo ≤ p.block ∧ p.block < hi) (u : Value) : Chg lo hi w (w'.setCell p u) :=
  h.trans ⟨rfl, rfl, rfl, by simp [World.setCell], fun k hk hn => Below.heap_setCell _ _ _ _ (by omega)⟩
theorem Chg.drew {lo hi : Nat} {w w' : World} (h : Chg lo hi w w') : Chg lo hi w w'.drew := ⟨h.os, h.tape, h.output, h.size, h.block⟩
theorem Chg.alloc {lo hi : Nat} {w w' : World} (h : Chg lo hi w w') (o : Obj) : Chg lo hi w (w'.alloc o) :=
  h.trans ⟨rfl, rfl, rfl, by simp, fun k hk _ => Below.heap_alloc _ _ _ hk⟩
theorem below_chg {B lo hi : Nat} {a w w' : World} (h : Below B a w) (hc : Chg lo hi w w') (hB : B ≤ w.heap.size) (hl : B ≤ lo) : Below B a w' :=
  h.trans ⟨hc.os, hc.tape, hc.output, hc.size, fun k hk => hc.block k (by omega) (by omega)⟩
theorem Chg.below {lo hi : Nat} {w w' : World} (hc : Chg lo hi w w') (hl : w.heap.size ≤ lo) : Below w.heap.size w w' :=
  ⟨hc.os, hc.tape, hc.output, hc.size, fun k hk => hc.block k hk (by omega)⟩
theorem Chg.cell {lo hi : Nat} {w w' : World} (hc : Chg lo hi w w') {p : Addr} (h1 : p.block < w.heap.size) (h2 : p.block < lo ∨ hi ≤ p.block) : w'.cell? p = w.cell? p := World.cell?_of_block (w := w) (hc.block _ h1 h2)

theorem IS.chg {w w' : World} {L B lo hi : Nat} {A : Option Addr} {xs : List Int} (h : IS w L B A xs) (hc : Chg lo hi w w') (hB : B ≤ w.heap.size) (hd : B ≤ lo ∨ hi ≤ L) : IS w' L B A xs :=
  h.keep fun p h1 h2 => hc.cell (by omega) (by omega)
theorem NS.chg {w w' : World} {L B lo hi : Nat} {A : Option Addr} {es : List Nd} (h : NS w L B A es) (hc : Chg lo hi w w') (hB : B ≤ w.heap.size) (hd : B ≤ lo ∨ hi ≤ L) : NS w' L B A es :=
  h.keep fun p h1 h2 => hc.cell (by omega) (by omega)

/-! ### Elements of k cells -/
section
variable {α : Type} (enc : α → List Value) (k : Nat)
/-- The slice at A reads as xs; its block lies in [lo, hi). -/
def RS (w : World) (lo hi : Nat) (A : Option Addr) (xs : List α) : Prop :=
  0 < xs.length → ∃ b o, A = some ⟨b, o, none⟩ ∧ (lo ≤ b ∧ b < hi) ∧ ∀ i (h : i < xs.length) (j : Nat) (v : Value), (enc xs[i])[j]? = some v → w.cell? ⟨b, o + i * k + j, none⟩ = some v
/-- A slice of the call's own. -/
def OK (t : TypeId) (w : World) (lo hi : Nat) (v : Value) (xs : List α) : Prop :=
  w.ownsRow lo t k v xs.length (xs.flatMap enc) ∧ ∀ j, v.ownBlock = some j → j < hi
/-- A block of elements known whole. -/
def KB (t : TypeId) (w : World) (g : Nat) (xs : List α) : Prop := w.heap[g]? = some (.cells (xs.flatMap enc).toArray t (0, 0))
end
variable {α : Type} {enc : α → List Value} {k : Nat}
theorem RS.keep {w w' : World} {lo hi : Nat} {A : Option Addr} {xs : List α} (h : RS enc k w lo hi A xs) (hk : ∀ p : Addr, lo ≤ p.block → p.block < hi → w'.cell? p = w.cell? p) : RS enc k w' lo hi A xs := by
  intro hn
  obtain ⟨b, o, e, hb, hc⟩ := h hn
  exact ⟨b, o, e, hb, fun i hi j v hv => (hk _ hb.1 hb.2).trans (hc i hi j v hv)⟩
theorem RS.below {w w' : World} {lo hi C : Nat} {A : Option Addr} {xs : List α} (h : RS enc k w lo hi A xs) (hb : Below C w w') (hC : hi ≤ C) : RS enc k w' lo hi A xs := h.keep fun _ _ hp => hb.cell (by omega)
theorem RS.chg {w w' : World} {L B lo hi : Nat} {A : Option Addr} {xs : List α} (h : RS enc k w L B A xs) (hc : Chg lo hi w w') (hB : B ≤ w.heap.size) (hd : B ≤ lo ∨ hi ≤ L) : RS enc k w' L B A xs :=
  h.keep fun p h1 h2 => hc.cell (by omega) (by omega)
theorem RS.more {w : World} {lo hi lo' hi' : Nat} {A : Option Addr} {xs : List α} (h : RS enc k w lo hi A xs) (h1 : lo' ≤ lo) (h2 : hi ≤ hi') : RS enc k w lo' hi' A xs := by
  intro hn
  obtain ⟨b, o, e, hb, hc⟩ := h hn
  exact ⟨b, o, e, by omega, hc⟩
theorem RS.nil (w : World) (lo hi : Nat) (A : Option Addr) : RS enc k w lo hi A [] := fun h => absurd h (by simp)
theorem kflat_len (hk : ∀ x, (enc x).length = k) (xs : List α) : (xs.flatMap enc).length = xs.length * k := by
  induction xs with
  | nil => simp
  | cons a l ih => rw [List.flatMap_cons, List.length_append, ih, hk]; simp [Nat.succ_mul]; omega
theorem kflat_get (hk : ∀ x, (enc x).length = k) (xs : List α) : ∀ (i j : Nat) (hi : i < xs.length), j < k → (xs.flatMap enc)[i * k + j]? = (enc xs[i])[j]? := by
  induction xs with
  | nil => intro i j hi; simp at hi
  | cons a l ih =>
    intro i j hi hj
    rw [List.flatMap_cons]
    cases i with
    | zero => simp only [Nat.zero_mul, Nat.zero_add, List.getElem_cons_zero]; exact List.getElem?_append_left (by rw [hk]; exact hj)
    | succ i =>
      rw [List.getElem?_append_right (by rw [hk, Nat.succ_mul]; omega)]
      simp only [List.getElem_cons_succ]
      rw [← ih i j (by simpa using hi) hj]
      congr 1
      rw [hk, Nat.succ_mul]; omega
theorem kflat_lt (hk : ∀ x, (enc x).length = k) {x : α} {j : Nat} {v : Value} (h : (enc x)[j]? = some v) : j < k := by
  rw [← hk x]; exact (List.getElem?_eq_some_iff.1 h).1
theorem OK.lo {t : TypeId} {w : World} {lo hi : Nat} {v : Value} {xs : List α} (h : OK enc k t w lo hi v xs) : ∀ j, v.ownBlock = some j → lo ≤ j ∧ j < hi :=
  fun j hj => ⟨(h.1.lt j hj).1, h.2 j hj⟩
theorem OK.lower {t : TypeId} {w : World} {lo lo' hi : Nat} {v : Value} {xs : List α} (h : OK enc k t w lo hi v xs) (hh : lo' ≤ lo) : OK enc k t w lo' hi v xs := by
  refine ⟨⟨h.1.1, ?_⟩, h.2⟩
  rcases h.1.2 with hn | ⟨g, cap, cur, rfl, hg, hr⟩
  · exact .inl hn
  · exact .inr ⟨g, cap, cur, rfl, by omega, hr⟩
theorem OK.more {t : TypeId} {w : World} {lo hi hi' : Nat} {v : Value} {xs : List α} (h : OK enc k t w lo hi v xs) (hh : hi ≤ hi') : OK enc k t w lo hi' v xs := ⟨h.1, fun j hj => Nat.lt_of_lt_of_le (h.2 j hj) hh⟩
theorem OK.chg {t : TypeId} {w w' : World} {L B lo hi : Nat} {v : Value} {xs : List α} (h : OK enc k t w L B v xs) (hc : Chg lo hi w w') (hd : B ≤ lo ∨ hi ≤ L) : OK enc k t w' L B v xs := by
  refine ⟨⟨h.1.1, ?_⟩, h.2⟩
  rcases h.1.2 with hn | ⟨g, cap, cur, rfl, hg, hh, hr⟩
  · exact .inl hn
  · have hB : g < B := h.2 g rfl
    exact .inr ⟨g, cap, cur, rfl, hg, (hc.block g (Array.getElem?_eq_some_iff.1 hh).1 (by omega)).trans hh, hr⟩
theorem OK.below {t : TypeId} {w w' : World} {L B C : Nat} {v : Value} {xs : List α} (h : OK enc k t w L B v xs) (hb : Below C w w') (hC : B ≤ C) : OK enc k t w' L B v xs := by
  refine ⟨⟨h.1.1, ?_⟩, h.2⟩
  rcases h.1.2 with hn | ⟨g, cap, cur, rfl, hg, hh, hr⟩
  · exact .inl hn
  · have hB : g < B := h.2 g rfl
    exact .inr ⟨g, cap, cur, rfl, hg, (hb.block g (by omega)).trans hh, hr⟩
theorem OK.nil (t : TypeId) (w : World) (lo hi : Nat) : OK enc k t w lo hi (.slice none 0 0) [] := ⟨w.ownsRow_nil _ _ _, fun j hj => by simp [Value.ownBlock] at hj⟩
theorem addr_add (g n : Nat) : (⟨g, 0, none⟩ : Addr).add n = ⟨g, n, none⟩ := by unfold Addr.add; split <;> simp_all
/-- What an own slice looks like, and that it reads as its list. -/
theorem OK.form (hk : ∀ x, (enc x).length = k) {t : TypeId} {w : World} {lo hi : Nat} {v : Value} {xs : List α} (h : OK enc k t w lo hi v xs) : ∃ A c, v = .slice A xs.length c ∧ RS enc k w lo hi A xs := by
  rcases h.1.2 with ⟨rfl, h0⟩ | ⟨g, cap, cur, rfl, hg, hh, _, _, _, ht⟩
  · exact ⟨none, 0, by rw [h0], fun hp => absurd hp (by omega)⟩
  · refine ⟨_, cap, rfl, fun _ => ⟨g, 0, rfl, ⟨hg, h.2 g rfl⟩, fun i hi j v hv => ?_⟩⟩
    have hjk := kflat_lt hk hv
    have := h.1.cells (g := g) rfl (i * k + j) v (by rw [kflat_get hk _ _ _ hi hjk]; exact hv)
    rw [Nat.zero_add]
    rw [addr_add g (i * k + j)] at this; exact this
theorem KB.lt {t : TypeId} {w : World} {g : Nat} {xs : List α} (h : KB enc t w g xs) : g < w.heap.size := by
  rcases Nat.lt_or_ge g w.heap.size with hlt | hge
  · exact hlt
  · unfold KB at h; rw [Array.getElem?_eq_none hge] at h; cases h
theorem KB.cell (hk : ∀ x, (enc x).length = k) {t : TypeId} {w : World} {g : Nat} {xs : List α} (h : KB enc t w g xs) (i : Nat) (hi : i < xs.length) (j : Nat) (v : Value) (hv : (enc xs[i])[j]? = some v) :
    w.cell? ⟨g, i * k + j, none⟩ = some v := by
  rw [cell_of_row w g _ _ t (0, 0) h, List.getElem?_toArray, kflat_get hk _ _ _ hi (kflat_lt hk hv)]; exact hv
theorem KB.frozen {t : TypeId} {w : World} {g : Nat} {xs : List α} (h : KB enc t w g xs) (i : Nat) : w.frozen? ⟨g, i, none⟩ = false := by
  unfold KB at h; simp [World.frozen?, h]
theorem KB.below {t : TypeId} {w w' : World} {g C : Nat} {xs : List α} (h : KB enc t w g xs) (hb : Below C w w') (hg : g < C) : KB enc t w' g xs := (hb.block g hg).trans h
theorem KB.toRS (hk : ∀ x, (enc x).length = k) {t : TypeId} {w : World} {g : Nat} {xs : List α} (h : KB enc t w g xs) : RS enc k w g (g + 1) (some ⟨g, 0, none⟩) xs :=
  fun _ => ⟨g, 0, rfl, by omega, fun i hi j v hv => by rw [Nat.zero_add]; exact h.cell hk i hi j v hv⟩
theorem KB.toOK (hk : ∀ x, (enc x).length = k) {t : TypeId} {w : World} {g lo hi : Nat} {xs : List α} (h : KB enc t w g xs) (hl : xs.length ≤ maxLen) (hlo : lo ≤ g) (hhi : g < hi) : OK enc k t w lo hi (.slice (some ⟨g, 0, none⟩) xs.length xs.length) xs :=
  ⟨⟨kflat_len hk xs, .inr ⟨g, xs.length, _, rfl, hlo, h, Nat.le_refl _, hl, by rw [List.size_toArray, kflat_len hk], by rw [List.take_of_length_le]; simp [kflat_len hk]⟩⟩,
   fun j hj => by simp [Value.ownBlock] at hj; omega⟩
/-- Cells of an own slice, for a store: its whole block as a list of cells. -/
def CB (t : TypeId) (w : World) (g : Nat) (cur : List Value) : Prop := w.heap[g]? = some (.cells cur.toArray t (0, 0))
theorem CB.cell {t : TypeId} {w : World} {g : Nat} {cur : List Value} (h : CB t w g cur) (i : Nat) : w.cell? ⟨g, i, none⟩ = cur[i]? := by
  rw [cell_of_row w g _ _ t (0, 0) h, List.getElem?_toArray]
theorem CB.frozen {t : TypeId} {w : World} {g : Nat} {cur : List Value} (h : CB t w g cur) (i : Nat) : w.frozen? ⟨g, i, none⟩ = false := by
  unfold CB at h; simp [World.frozen?, h]
theorem CB.set {t : TypeId} {w : World} {g : Nat} {cur : List Value} (h : CB t w g cur) (i : Nat) (x : Value) : CB t (w.setCell ⟨g, i, none⟩ x) g (cur.set i x) := by
  unfold CB at h ⊢
  simp [World.setCell, Array.getElem?_modify, h]
theorem CB.lt {t : TypeId} {w : World} {g : Nat} {cur : List Value} (h : CB t w g cur) : g < w.heap.size := by
  rcases Nat.lt_or_ge g w.heap.size with hlt | hge
  · exact hlt
  · unfold CB at h; rw [Array.getElem?_eq_none hge] at h; cases h
theorem CB.below {t : TypeId} {w w' : World} {g C : Nat} {cur : List Value} (h : CB t w g cur) (hb : Below C w w') (hg : g < C) : CB t w' g cur := (hb.block g hg).trans h
/-- An own slice, opened: nothing in it, or its block's cells. -/
theorem OK.open {t : TypeId} {w : World} {lo hi : Nat} {v : Value} {xs : List α} (h : OK enc k t w lo hi v xs) :
    (v = .slice none 0 0 ∧ xs.length = 0) ∨ ∃ g cap, v = .slice (some ⟨g, 0, none⟩) xs.length cap ∧ lo ≤ g ∧ g < hi ∧ xs.length ≤ cap ∧ cap ≤ maxLen ∧ ∃ rest, CB t w g (xs.flatMap enc ++ rest) ∧ (xs.flatMap enc ++ rest).length = cap * k := by
  rcases h.1.2 with h0 | ⟨g, cap, cur, rfl, hg, hh, h1, h2, h3, h4⟩
  · exact .inl h0
  · refine .inr ⟨g, cap, rfl, hg, h.2 g rfl, h1, h2, cur.toList.drop (xs.length * k), ?_, ?_⟩
    · unfold CB; rw [← h4, List.take_append_drop]; exact hh
    · rw [← h4, List.take_append_drop, Array.length_toList, h3]
theorem OK.close (hk : ∀ x, (enc x).length = k) {t : TypeId} {w : World} {g cap lo hi : Nat} {xs : List α} {rest : List Value} (h : CB t w g (xs.flatMap enc ++ rest)) (hlo : lo ≤ g) (hhi : g < hi) (h1 : xs.length ≤ cap) (h2 : cap ≤ maxLen) (h3 : (xs.flatMap enc ++ rest).length = cap * k) :
    OK enc k t w lo hi (.slice (some ⟨g, 0, none⟩) xs.length cap) xs :=
  ⟨⟨kflat_len hk xs, .inr ⟨g, cap, _, rfl, hlo, h, h1, h2, by rw [List.size_toArray, h3], by
    show List.take _ (xs.flatMap enc ++ rest) = _
    rw [← kflat_len hk xs, List.take_left]⟩⟩, fun j hj => by simp [Value.ownBlock] at hj; omega⟩
end Go.Proofs.Ytmhdijklindipaa
