import Derived.Test.YtmhdijklindipaaV
import Derived.Laws.MakeOwn
/- Stores of whole elements; made blocks; marks. No program. -/
namespace Go.Proofs.Ytmhdijklindipaa
open Go.RowKit
set_option linter.unusedVariables false
variable {α : Type} {enc : α → List Value} {k : Nat}

def setCells (w : World) (g o : Nat) : List Value → World
  | [] => w
  | v :: t => setCells (w.setCell ⟨g, o, none⟩ v) g (o + 1) t
def splice (cur : List Value) (o : Nat) : List Value → List Value
  | [] => cur
  | v :: t => splice (cur.set o v) (o + 1) t
theorem CB.sets {t : TypeId} {g : Nat} (vs : List Value) : ∀ {w : World} {cur : List Value} (o : Nat), CB t w g cur → CB t (setCells w g o vs) g (splice cur o vs) := by
  induction vs with
  | nil => intro w cur o h; exact h
  | cons v vs ih => intro w cur o h; exact ih (o + 1) (h.set o v)
theorem splice_len (vs : List Value) : ∀ (cur : List Value) (o : Nat), (splice cur o vs).length = cur.length := by
  induction vs with
  | nil => intro cur o; rfl
  | cons v vs ih => intro cur o; rw [splice, ih, List.length_set]
theorem splice_get (vs : List Value) : ∀ (cur : List Value) (o i : Nat), o + vs.length ≤ cur.length → (splice cur o vs)[i]? = if o ≤ i ∧ i < o + vs.length then vs[i - o]? else cur[i]? := by
  induction vs with
  | nil => intro cur o i h; rw [if_neg (by simp only [List.length_nil]; omega)]; rfl
  | cons v vs ih =>
    intro cur o i h
    simp only [List.length_cons] at h
    rw [splice, ih _ _ _ (by rw [List.length_set]; omega)]
    simp only [List.length_cons]
    by_cases h1 : o + 1 ≤ i ∧ i < o + 1 + vs.length
    · rw [if_pos h1, if_pos (by omega), show i - o = (i - (o + 1)) + 1 by omega, List.getElem?_cons_succ]
    · rw [if_neg h1]
      by_cases h2 : i = o
      · subst h2
        rw [if_pos (by omega), Nat.sub_self, List.getElem?_set_self (by omega)]; rfl
      · rw [if_neg (by omega), List.getElem?_set_ne (by omega)]
theorem splice_flat (hk : ∀ x, (enc x).length = k) (xs : List α) (rest : List Value) (i : Nat) (x : α) (hi : i < xs.length) : splice (xs.flatMap enc ++ rest) (i * k) (enc x) = (xs.set i x).flatMap enc ++ rest := by
  have hmul : (i + 1) * k ≤ xs.length * k := Nat.mul_le_mul_right k hi
  rw [Nat.succ_mul] at hmul
  have hl := kflat_len hk xs
  apply List.ext_getElem?
  intro n
  rw [splice_get _ _ _ _ (by rw [hk, List.length_append, hl]; omega), hk]
  by_cases hn : n < xs.length * k
  · have hkp : 0 < k := by rcases Nat.eq_zero_or_pos k with h | h; · subst h; simp at hn
                           · exact h
    have hq : n / k < xs.length := Nat.div_lt_of_lt_mul (by rw [Nat.mul_comm]; exact hn)
    have hr : n % k < k := Nat.mod_lt _ hkp
    have he : n / k * k + n % k = n := by rw [Nat.mul_comm]; exact Nat.div_add_mod n k
    have h1 := kflat_get hk (xs.set i x) (n / k) (n % k) (by rw [List.length_set]; exact hq) hr
    have h2 := kflat_get hk xs (n / k) (n % k) hq hr
    rw [he] at h1 h2
    have hset : n < ((xs.set i x).flatMap enc).length := by rw [kflat_len hk, List.length_set]; exact hn
    rw [show ((xs.set i x).flatMap enc ++ rest)[n]? = ((xs.set i x).flatMap enc)[n]? from List.getElem?_append_left hset, h1]
    by_cases hqi : n / k = i
    · have hge : i * k ≤ n := by rw [← hqi]; omega
      rw [if_pos ⟨hge, by rw [← hqi]; omega⟩]
      subst hqi
      rw [List.getElem_set_self, show n - n / k * k = n % k by omega]
    · rw [if_neg, List.getElem?_append_left (by rw [hl]; exact hn), h2, List.getElem_set_ne (fun e => hqi e.symm)]
      intro ⟨ha, hb⟩
      apply hqi
      have h3 : i ≤ n / k := (Nat.le_div_iff_mul_le hkp).2 ha
      have h4 : n / k < i + 1 := Nat.div_lt_of_lt_mul (by rw [Nat.mul_comm, Nat.succ_mul]; exact hb)
      omega
  · rw [if_neg (by omega), List.getElem?_append_right (by rw [hl]; omega), List.getElem?_append_right (by rw [kflat_len hk, List.length_set]; omega), hl, kflat_len hk, List.length_set]
theorem CB.store (hk : ∀ x, (enc x).length = k) {t : TypeId} {w : World} {g : Nat} {xs : List α} {rest : List Value} (h : CB t w g (xs.flatMap enc ++ rest)) (i : Nat) (hi : i < xs.length) (x : α) :
    CB t (setCells w g (i * k) (enc x)) g ((xs.set i x).flatMap enc ++ rest) := by
  rw [← splice_flat hk xs rest i x hi]; exact CB.sets _ _ h
theorem CB.at (hk : ∀ x, (enc x).length = k) {t : TypeId} {w : World} {g : Nat} {xs : List α} {rest : List Value} (h : CB t w g (xs.flatMap enc ++ rest)) (i : Nat) (hi : i < xs.length) (j : Nat) (v : Value) (hv : (enc xs[i])[j]? = some v) :
    w.cell? ⟨g, i * k + j, none⟩ = some v := by
  have hj := kflat_lt hk hv
  have hmul : (i + 1) * k ≤ xs.length * k := Nat.mul_le_mul_right k hi
  rw [Nat.succ_mul] at hmul
  rw [h.cell, List.getElem?_append_left (by rw [kflat_len hk]; omega), kflat_get hk _ _ _ hi hj]; exact hv
theorem chg_setCells {lo hi : Nat} (vs : List Value) : ∀ {a w : World} (g o : Nat), Chg lo hi a w → lo ≤ g ∧ g < hi → Chg lo hi a (setCells w g o vs) := by
  induction vs with
  | nil => intro a w g o h _; exact h
  | cons v vs ih => intro a w g o h hg; exact ih g (o + 1) (h.setCell (p := ⟨g, o, none⟩) hg v) hg
theorem below_setCells {B : Nat} (vs : List Value) : ∀ {a w : World} (g o : Nat), Below B a w → B ≤ g → Below B a (setCells w g o vs) := by
  induction vs with
  | nil => intro a w g o h _; exact h
  | cons v vs ih => intro a w g o h hg; exact ih g (o + 1) (h.setCell (p := ⟨g, o, none⟩) hg v) hg
theorem size_setCells (vs : List Value) : ∀ (w : World) (g o : Nat), (setCells w g o vs).heap.size = w.heap.size := by
  induction vs with
  | nil => intro w g o; rfl
  | cons v vs ih => intro w g o; rw [setCells, ih]; simp [World.setCell]
/-- Cells of a block that a make laid. -/
theorem made_flat (hk : ∀ x, (enc x).length = k) (z : α) (n : Nat) : (madeCells (enc z).toArray (n * k)).toList = (List.replicate n z).flatMap enc := by
  apply List.ext_getElem?
  intro i
  by_cases hi : i < n * k
  · have hkp : 0 < k := by rcases Nat.eq_zero_or_pos k with h | h; · subst h; simp at hi
                           · exact h
    have hq : i / k < n := Nat.div_lt_of_lt_mul (by rw [Nat.mul_comm]; exact hi)
    have hr : i % k < k := Nat.mod_lt _ hkp
    have he : i / k * k + i % k = i := by rw [Nat.mul_comm]; exact Nat.div_add_mod i k
    have h1 := kflat_get hk (List.replicate n z) (i / k) (i % k) (by simpa using hq) hr
    rw [he, List.getElem_replicate] at h1
    rw [h1, Array.getElem?_toList, Array.getElem?_eq_getElem (by rw [size_madeCells]; exact hi)]
    rw [List.getElem?_eq_getElem (by rw [hk]; exact hr)]
    have hs : (enc z).toArray.size = k := by rw [List.size_toArray, hk]
    simp [madeCells, hk, hr]
  · rw [List.getElem?_eq_none (by rw [Array.length_toList, size_madeCells]; omega), List.getElem?_eq_none (by rw [kflat_len hk, List.length_replicate]; omega)]
/-- The first i elements of ys, then those of xs. -/
def over (ys xs : List α) (i : Nat) : List α := ys.take i ++ xs.drop i
theorem over_zero (ys xs : List α) : over ys xs 0 = xs := by simp [over]
theorem over_len {ys xs : List α} {i : Nat} (h : i ≤ ys.length) (he : ys.length = xs.length) : (over ys xs i).length = xs.length := by simp [over]; omega
theorem over_succ {ys xs : List α} {i : Nat} (h : i < ys.length) (he : ys.length = xs.length) : (over ys xs i).set i ys[i] = over ys xs (i + 1) := by
  unfold over
  have hl : (ys.take i).length = i := by rw [List.length_take]; omega
  rw [List.set_append_right _ _ (by omega), hl, Nat.sub_self, List.drop_eq_getElem_cons (by omega), List.set_cons_zero, List.take_succ_eq_append_getElem h, List.append_assoc]; rfl
theorem over_all {ys xs : List α} (he : ys.length = xs.length) : over ys xs ys.length = ys := by unfold over; rw [List.take_of_length_le (Nat.le_refl _), he, List.drop_of_length_le (Nat.le_refl _), List.append_nil]
end Go.Proofs.Ytmhdijklindipaa
