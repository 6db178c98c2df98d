/- Texts of this proof, one behind the other: BR, BS, BO, GA, BK, BP. -/
import Derived.Test.YtmhdijklindipaaZ6
import Derived.Test.YtmhdijklindipaaV2
import Derived.Test.YtmhdijklindipaaV3
import Derived.WalkKit
import Derived.Lib.Hide
import Derived.WalkSpells
import Derived.WalkLawsBesides
import Derived.Deep.RegionHeld3
import Derived.Deep.RegionLaw
import Derived.Deep.AppendLies
import Derived.Test.YtmhdijklindipaaZ9
import Derived.Test.YtmhdijklindipaaEA
import Derived.RangeFuncNested
import Derived.RangeFuncBound
import Derived.RangeFuncCalls
import Derived.RangeFuncLeaves
import Derived.RangeFuncBox
import Derived.Shelf.Abstract
import Derived.Shelf.RegionOpen
import Derived.OwnWalkIn
import Derived.TacticsInMore
import Derived.LoopNIn
import Derived.LoopIn
import Derived.Test.YtmhdijklindipaaKInstr
import Derived.RangeFuncFrom
/- Slices of slices of ints of the call's own: made, laid ahead, laid behind, stored into. -/
namespace Go.Proofs.Ytmhdijklindipaa
open Go.RowKit
set_option linter.unusedVariables false

theorem Try.infoII : (Try.prog.info? 27).map (fun i => (i.zero, i.size, i.bytes)) = some (some (.slice none 0 0), 1, 24) := by kernel_rfl
theorem rowNeX {w : World} {L1 L2 k1 k2 n1 n2 : Nat} {t1 t2 : TypeId} {v1 v2 : Value} {x1 x2 : List Value} (h1 : w.ownsRow L1 t1 k1 v1 n1 x1) (h2 : w.ownsRow L2 t2 k2 v2 n2 x2) (ht : t1 ≠ t2) : ∀ j, v1.ownBlock = some j → v2.ownBlock ≠ some j := by
  intro j e1 e2
  rcases h1.2 with ⟨rfl, _⟩ | ⟨g, cap, cur, rfl, _, hh, _⟩
  · simp [Value.ownBlock] at e1
  · rcases h2.2 with ⟨rfl, _⟩ | ⟨g', cap', cur', rfl, _, hh', _⟩
    · simp [Value.ownBlock] at e2
    · have a1 : g = j := by simpa [Value.ownBlock] using e1
      have a2 : g' = j := by simpa [Value.ownBlock] using e2
      subst a1; subst a2
      rw [hh] at hh'; injection hh' with hh'; injection hh' with _ h9
      exact ht h9
/-- The rows: each of the call's own, no two in one block. -/
structure RowsX (w : World) (lo hi : Nat) (vs : List Value) (xss : List (List Int)) : Prop where
  len : vs.length = xss.length
  row : ∀ i (h : i < vs.length) (h' : i < xss.length), (∃ Ai ci, vs[i] = .slice Ai (xss[i]).length ci) ∧ OW w lo hi vs[i] xss[i]
  apart : ∀ i j (h : i < vs.length) (h' : j < vs.length), i ≠ j → ∀ b, vs[i].ownBlock = some b → vs[j].ownBlock ≠ some b
theorem OX.of {w : World} {lo hi : Nat} {v : Value} {vs : List Value} {xss : List (List Int)} (hO : OK encV 1 27 w lo hi v vs) (h : RowsX w lo hi vs xss) : OX w lo hi v xss :=
  ⟨vs, h.len, hO, h.row, h.apart, fun b hb i hi' => rowNeX hO.1 (h.row i hi' (by rw [← h.len]; exact hi')).2.1 (by decide) b hb⟩
theorem OX.parts {w : World} {lo hi : Nat} {v : Value} {xss : List (List Int)} (h : OX w lo hi v xss) : ∃ vs, OK encV 1 27 w lo hi v vs ∧ RowsX w lo hi vs xss := by
  obtain ⟨vs, hl, hO, hr, hd, _⟩ := h
  exact ⟨vs, hO, hl, hr, hd⟩
theorem RowsX.mk1 {w : World} {lo hi : Nat} {v0 : Value} {xs : List Int} (h : OW w lo hi v0 xs) : RowsX w lo hi [v0] [xs] := by
  refine ⟨rfl, fun i h1 h2 => ?_, fun i j h1 h2 hne => ?_⟩
  · obtain rfl : i = 0 := by simpa using h1
    obtain ⟨A, c, e, _⟩ := h.form
    exact ⟨⟨A, c, e⟩, h⟩
  · simp at h1 h2; omega
theorem OW.fresh {w : World} {lo hi b : Nat} {v : Value} {xs : List Int} (h : OW w lo hi v xs) (e : v.ownBlock = some b) : lo ≤ b ∧ b < hi := h.lo b e
theorem RowsX.cons {w : World} {lo hi hi0 : Nat} {v0 : Value} {xs : List Int} {vs : List Value} {xss : List (List Int)} (h : RowsX w lo hi vs xss) (h0 : OW w hi hi0 v0 xs) (hle : hi ≤ hi0) (hlo : lo ≤ hi) : RowsX w lo hi0 (v0 :: vs) (xs :: xss) := by
  refine ⟨by simp [h.len], fun i h1 h2 => ?_, fun i j h1 h2 hne b hb => ?_⟩
  · cases i with
    | zero =>
      obtain ⟨A, c, e, _⟩ := h0.form
      exact ⟨⟨A, c, e⟩, h0.lower hlo⟩
    | succ i =>
      have hr := h.row i (by simpa using h1) (by simpa using h2)
      exact ⟨hr.1, hr.2.more hle⟩
  · cases i with
    | zero =>
      cases j with
      | zero => omega
      | succ j =>
        intro e
        have h3 : j < vs.length := by simpa using h2
        have := (h.row j h3 (by rw [← h.len]; exact h3)).2.fresh (by simpa using e)
        have := h0.fresh (by simpa using hb)
        omega
    | succ i =>
      have h3 : i < vs.length := by simpa using h1
      cases j with
      | zero =>
        intro e
        have := (h.row i h3 (by rw [← h.len]; exact h3)).2.fresh (by simpa using hb)
        have := h0.fresh (by simpa using e)
        omega
      | succ j => exact h.apart i j h3 (by simpa using h2) (by omega) b (by simpa using hb)
theorem RowsX.set {w : World} {lo hi hi0 : Nat} {v0 : Value} {xs : List Int} {vs : List Value} {xss : List (List Int)} (h : RowsX w lo hi vs xss) (k : Nat) (h0 : OW w hi hi0 v0 xs) (hle : hi ≤ hi0) (hlo : lo ≤ hi) : RowsX w lo hi0 (vs.set k v0) (xss.set k xs) := by
  refine ⟨by simp [h.len], fun i h1 h2 => ?_, fun i j h1 h2 hne b hb => ?_⟩
  · rw [List.length_set] at h1 h2
    rw [List.getElem_set, List.getElem_set]
    by_cases e : k = i
    · rw [if_pos e, if_pos e]
      obtain ⟨A, c, e2, _⟩ := h0.form
      exact ⟨⟨A, c, e2⟩, h0.lower hlo⟩
    · rw [if_neg e, if_neg e]
      have hr := h.row i h1 h2
      exact ⟨hr.1, hr.2.more hle⟩
  · rw [List.length_set] at h1 h2
    rw [List.getElem_set] at hb ⊢
    by_cases e1 : k = i
    · rw [if_pos e1] at hb
      rw [if_neg (by omega)]
      intro e
      have := (h.row j h2 (by rw [← h.len]; exact h2)).2.fresh e
      have := h0.fresh hb
      omega
    · rw [if_neg e1] at hb
      by_cases e2 : k = j
      · rw [if_pos e2]
        intro e
        have := (h.row i h1 (by rw [← h.len]; exact h1)).2.fresh hb
        have := h0.fresh e
        omega
      · rw [if_neg e2]; exact h.apart i j h1 h2 hne b hb
theorem RowsX.snoc {w : World} {lo hi hi0 : Nat} {v0 : Value} {xs : List Int} {vs : List Value} {xss : List (List Int)} (h : RowsX w lo hi vs xss) (h0 : OW w hi hi0 v0 xs) (hle : hi ≤ hi0) (hlo : lo ≤ hi) : RowsX w lo hi0 (vs ++ [v0]) (xss ++ [xs]) := by
  have hl := h.len
  refine ⟨by simp [h.len], fun i h1 h2 => ?_, fun i j h1 h2 hne b hb => ?_⟩
  · by_cases e : i < vs.length
    · rw [List.getElem_append_left e, List.getElem_append_left (by omega)]
      have hr := h.row i e (by omega)
      exact ⟨hr.1, hr.2.more hle⟩
    · have e2 : i = vs.length := by simp at h1; omega
      subst e2
      rw [List.getElem_append_right (Nat.le_refl _), List.getElem_append_right (by omega)]
      obtain ⟨A, c, e2, _⟩ := h0.form
      simp only [hl, Nat.sub_self, List.getElem_cons_zero]
      exact ⟨⟨A, c, e2⟩, h0.lower hlo⟩
  · by_cases e1 : i < vs.length
    · rw [List.getElem_append_left e1] at hb
      by_cases e2 : j < vs.length
      · rw [List.getElem_append_left e2]; exact h.apart i j e1 e2 hne b hb
      · have e3 : j = vs.length := by simp at h2; omega
        subst e3
        rw [List.getElem_append_right (Nat.le_refl _)]
        simp only [Nat.sub_self, List.getElem_cons_zero]
        intro e
        have := (h.row i e1 (by omega)).2.fresh hb
        have := h0.fresh e
        omega
    · have e3 : i = vs.length := by simp at h1; omega
      subst e3
      rw [List.getElem_append_right (Nat.le_refl _)] at hb
      simp only [Nat.sub_self, List.getElem_cons_zero] at hb
      have e2 : j < vs.length := by simp at h2; omega
      rw [List.getElem_append_left e2]
      intro e
      have := (h.row j e2 (by omega)).2.fresh e
      have := h0.fresh hb
      omega
theorem RowsX.more {w : World} {lo hi hi' : Nat} {vs : List Value} {xss : List (List Int)} (h : RowsX w lo hi vs xss) (hh : hi ≤ hi') : RowsX w lo hi' vs xss :=
  ⟨h.len, fun i h1 h2 => ⟨(h.row i h1 h2).1, (h.row i h1 h2).2.more hh⟩, h.apart⟩
theorem RowsX.chg {w w' : World} {L B lo hi : Nat} {vs : List Value} {xss : List (List Int)} (h : RowsX w L B vs xss) (hc : Chg lo hi w w') (hd : B ≤ lo ∨ hi ≤ L) : RowsX w' L B vs xss :=
  ⟨h.len, fun i h1 h2 => ⟨(h.row i h1 h2).1, (h.row i h1 h2).2.chg hc hd⟩, h.apart⟩
/-- A slice of another type grows. -/
theorem RowsX.grown {w w' : World} {lo hi L n : Nat} {u : Value} {xs : List Value} {vs : List Value} {xss : List (List Int)} (h : RowsX w lo hi vs xss) (hu : w.ownsRow L 27 1 u n xs) (hg : w.grownBy w' u.ownBlock) : RowsX w' lo hi vs xss :=
  ⟨h.len, fun i h1 h2 => ⟨(h.row i h1 h2).1, (h.row i h1 h2).2.turned hg (fun b hb => rowNeX hu (h.row i h1 h2).2.1 (by decide) b hb)⟩, h.apart⟩
/-- A block of another type is stored into. -/
theorem RowsX.stored {w : World} {lo hi g k : Nat} {t : TypeId} {cur : List Value} {u : Value} {vs : List Value} {xss : List (List Int)} (h : RowsX w lo hi vs xss) (hb : CB t w g cur) (ht : t ≠ 3) : RowsX (w.setCell ⟨g, k, none⟩ u) lo hi vs xss :=
  ⟨h.len, fun i h1 h2 => ⟨(h.row i h1 h2).1, by
    have hO := (h.row i h1 h2).2
    refine ⟨hO.1.kept (row := some g) ⟨rfl, rfl, rfl, Nat.le_of_eq (World.size_setCell _ _ _).symm, fun k _ hk => Below.heap_setCell _ _ _ k (fun e => hk (by rw [e]))⟩ ?_, hO.2⟩
    rcases hV : vs[i].ownBlock with _ | j
    · exact .inl rfl
    · refine .inr (fun e => ?_)
      injection e with e; subst e
      rcases hO.1.2 with ⟨h0, _⟩ | ⟨g', cap, cur', h0, _, hh, _⟩
      · rw [h0] at hV; simp [Value.ownBlock] at hV
      · rw [h0] at hV
        have e1 : g' = j := by simpa [Value.ownBlock] using hV
        subst e1
        unfold CB at hb
        rw [hb] at hh; injection hh with hh; injection hh with _ h9
        exact ht h9⟩, h.apart⟩
theorem flat_encV (vs : List Value) : vs.flatMap encV = vs := by induction vs with | nil => rfl | cons v vs ih => rw [List.flatMap_cons, ih]; rfl
theorem encV_one (v : Value) : (encV v).length = 1 := rfl
theorem okv_of {w : World} {lo n : Nat} {v : Value} {vs : List Value} (h : w.ownsRow lo 27 1 v n vs) (hn : n = vs.length) : OK encV 1 27 w lo w.heap.size v vs := by
  subst hn; exact ⟨by rw [flat_encV]; exact h, fun j hj => (h.lt j hj).2⟩
theorem okv_row {w : World} {lo hi : Nat} {v : Value} {vs : List Value} (h : OK encV 1 27 w lo hi v vs) : w.ownsRow lo 27 1 v vs.length vs := by
  have := h.1; rwa [flat_encV] at this
theorem rows_one {w : World} {lo hi : Nat} {vs : List Value} {xss : List (List Int)} (h : RowsX w lo hi vs xss) : ∀ u ∈ vs, u.oneCell' = true := by
  intro u hu
  obtain ⟨i, hi', e⟩ := List.mem_iff_getElem.1 hu
  obtain ⟨⟨A, c, e2⟩, _⟩ := h.row i hi' (by rw [← h.len]; exact hi')
  rw [← e, e2]; rfl
/-- One slice in a block. -/
theorem okv_one {w : World} {lo hi g : Nat} {v0 : Value} (h : CB 27 w g [v0]) (hlo : lo ≤ g) (hhi : g < hi) : OK encV 1 27 w lo hi (.slice (some ⟨g, 0, none⟩) 1 1) [v0] :=
  OK.close (enc := encV) (k := 1) (rest := []) encV_one (by simpa [encV] using h) hlo hhi (Nat.le_refl _) (by unfold maxLen; omega) rfl
theorem OX.below {w w' : World} {L B C : Nat} {v : Value} {xss : List (List Int)} (h : OX w L B v xss) (hb : Below C w w') (hC : B ≤ C) : OX w' L B v xss := by
  obtain ⟨vs, hO, hR⟩ := h.parts
  exact OX.of (hO.below hb hC) ⟨hR.len, fun i h1 h2 => ⟨(hR.row i h1 h2).1, (hR.row i h1 h2).2.below hb hC⟩, hR.apart⟩
theorem OX.form {w : World} {L B : Nat} {v : Value} {xss : List (List Int)} (h : OX w L B v xss) : ∃ A c, v = .slice A xss.length c := by
  obtain ⟨vs, hO, hR⟩ := h.parts
  obtain ⟨A, c, e, _⟩ := OK.form (enc := encV) (k := 1) encV_one hO
  exact ⟨A, c, by rw [e, hR.len]⟩
/-- 'append([][]int{v0}, rows...)'. -/
theorem consX {wr w3 : World} {lo b o n c5 : Nat} {v3 : Value} {xs : List Int} {xss : List (List Int)} (hX : OX wr lo wr.heap.size (.slice (some ⟨b, o, none⟩) n c5) xss) (hlo : lo ≤ wr.heap.size) (hw : Below wr.heap.size wr w3) (h3 : OW w3 wr.heap.size w3.heap.size v3 xs) (h0 : 0 < xss.length) :
    ∃ vs, vs.length = n ∧ (w3.alloc (.cells #[v3] 27)).ownsRow lo 27 1 (.slice (some ⟨w3.heap.size, 0, none⟩) 1 1) 1 [v3] ∧
      (∀ j u, vs[j]? = some u → (w3.alloc (.cells #[v3] 27)).cell? ((⟨b, o, none⟩ : Addr).add j) = some u) ∧ (∀ u ∈ vs, u.oneCell' = true) ∧
      (∀ g' cap w5, w5.ownsRow lo 27 1 (.slice (some ⟨g', 0, none⟩) (1 + n) cap) (1 + n) ([v3] ++ vs) → (w3.alloc (.cells #[v3] 27)).grownBy w5 (Value.slice (some ⟨w3.heap.size, 0, none⟩) 1 1).ownBlock →
        OX w5 lo w5.heap.size (.slice (some ⟨g', 0, none⟩) (1 + n) cap) (xs :: xss)) := by
  obtain ⟨vs, hO, hR⟩ := hX.parts
  have hvn : vs.length = n := by
    obtain ⟨A, c, e, _⟩ := OK.form (enc := encV) (k := 1) encV_one hO
    injection e with _ e2 _; exact e2.symm
  have A4 := (Below.refl w3.heap.size w3).alloc (Nat.le_refl _) (.cells #[v3] 27)
  have hcb : CB 27 (w3.alloc (.cells #[v3] 27)) w3.heap.size [v3] := heap_alloc_new w3 _
  have hz3 := hw.size
  have hz4 : (w3.alloc (.cells #[v3] 27)).heap.size = w3.heap.size + 1 := World.size_alloc _ _
  have hlit := okv_one (lo := lo) (hi := w3.heap.size + 1) hcb (by omega) (Nat.lt_succ_self _)
  have hO4 : OK encV 1 27 (w3.alloc (.cells #[v3] 27)) lo wr.heap.size (.slice (some ⟨b, o, none⟩) n c5) vs := (hO.below hw (Nat.le_refl _)).below A4 hz3
  have hR4 : RowsX (w3.alloc (.cells #[v3] 27)) lo wr.heap.size vs xss := ⟨hR.len, fun i h1 h2 => ⟨(hR.row i h1 h2).1, ((hR.row i h1 h2).2.below hw (Nat.le_refl _)).below A4 hz3⟩, hR.apart⟩
  have h34 : OW (w3.alloc (.cells #[v3] 27)) wr.heap.size w3.heap.size v3 xs := h3.below A4 (Nat.le_refl _)
  have hC := hR4.cons h34 hz3 hlo
  refine ⟨vs, hvn, okv_row hlit, fun j u hu => ?_, rows_one hR4, fun g' cap w5 hown hgr => ?_⟩
  · obtain ⟨a, e, h⟩ := (okv_rs hO4).news encV_one (by rw [hR.len]; exact h0)
    injection e with e; subst e
    exact h j u (by rw [flat_encV]; exact hu)
  · have hRf := (hC.more (Nat.le_succ_of_le (Nat.le_refl w3.heap.size))).grown (okv_row hlit) hgr
    have hsz := hgr.size
    exact OX.of (okv_of (by simpa using hown) (by simp [hvn]; omega)) (hRf.more (by omega))
/-- 'append(rows, v0)'. -/
theorem snocX {wr w3 : World} {lo n c5 : Nat} {A : Option Addr} {v3 : Value} {xs : List Int} {xss : List (List Int)} (hX : OX wr lo wr.heap.size (.slice A n c5) xss) (hlo : lo ≤ wr.heap.size) (hw : Below wr.heap.size wr w3) (h3 : OW w3 wr.heap.size w3.heap.size v3 xs) :
    ∃ vs, vs.length = n ∧ (w3.alloc (.cells #[v3] 27)).ownsRow lo 27 1 (.slice A n c5) n vs ∧
      (∀ j u, [v3][j]? = some u → (w3.alloc (.cells #[v3] 27)).cell? ((⟨w3.heap.size, 0, none⟩ : Addr).add j) = some u) ∧ (∀ u ∈ [v3], u.oneCell' = true) ∧
      (∀ g' cap w5, w5.ownsRow lo 27 1 (.slice (some ⟨g', 0, none⟩) (n + 1) cap) (n + 1) (vs ++ [v3]) → (w3.alloc (.cells #[v3] 27)).grownBy w5 (Value.slice A n c5).ownBlock →
        OX w5 lo w5.heap.size (.slice (some ⟨g', 0, none⟩) (n + 1) cap) (xss ++ [xs])) ∧
      (∀ b, (Value.slice A n c5).ownBlock = some b → lo ≤ b) := by
  obtain ⟨vs, hO, hR⟩ := hX.parts
  have hvn : vs.length = n := by
    obtain ⟨A, c, e, _⟩ := OK.form (enc := encV) (k := 1) encV_one hO
    injection e with _ e2 _; exact e2.symm
  have A4 := (Below.refl w3.heap.size w3).alloc (Nat.le_refl _) (.cells #[v3] 27)
  have hcb : CB 27 (w3.alloc (.cells #[v3] 27)) w3.heap.size [v3] := heap_alloc_new w3 _
  have hz3 := hw.size
  have hz4 : (w3.alloc (.cells #[v3] 27)).heap.size = w3.heap.size + 1 := World.size_alloc _ _
  have hO4 : OK encV 1 27 (w3.alloc (.cells #[v3] 27)) lo wr.heap.size (.slice A n c5) vs := (hO.below hw (Nat.le_refl _)).below A4 hz3
  have hR4 : RowsX (w3.alloc (.cells #[v3] 27)) lo wr.heap.size vs xss := ⟨hR.len, fun i h1 h2 => ⟨(hR.row i h1 h2).1, ((hR.row i h1 h2).2.below hw (Nat.le_refl _)).below A4 hz3⟩, hR.apart⟩
  have h34 : OW (w3.alloc (.cells #[v3] 27)) wr.heap.size w3.heap.size v3 xs := h3.below A4 (Nat.le_refl _)
  have hC := hR4.snoc h34 hz3 hlo
  obtain ⟨A3, c3, e3, _⟩ := h3.form
  refine ⟨vs, hvn, by have := okv_row hO4; rwa [hvn] at this, fun j u hu => ?_, fun u hu => by simp at hu; rw [hu, e3]; rfl, fun g' cap w5 hown hgr => ?_, fun b hb => (hO.lo b hb).1⟩
  · rw [addr_add, hcb.cell]; exact hu
  · have hRf := (hC.more (Nat.le_succ_of_le (Nat.le_refl w3.heap.size))).grown (okv_row hO4) hgr
    have hsz := hgr.size
    exact OX.of (okv_of hown (by simp [hvn])) (hRf.more (by omega))
end Go.Proofs.Ytmhdijklindipaa

/- The sets of live registers: plain, and cdSets of the model. -/
namespace Go.Proofs.Ytmhdijklindipaa
open Go.RowKit
set_option linter.unusedVariables false
set_option maxRecDepth 100000

def lvX (bs : List Bool) : List In → List (List Int)
  | [] => [mkT bs]
  | x :: cs => mkT (lvS bs (x :: cs)) :: lvX bs cs
theorem lvX_len (bs : List Bool) : ∀ cs : List In, (lvX bs cs).length = cs.length + 1
  | [] => rfl
  | x :: cs => by show (lvX bs cs).length + 1 = _; rw [lvX_len bs cs]; rfl
theorem lvX_head (bs : List Bool) : ∀ cs : List In, ∃ t, lvX bs cs = mkT (lvS bs cs) :: t
  | [] => ⟨[], rfl⟩
  | x :: cs => ⟨lvX bs cs, rfl⟩
theorem lvX_drop (bs : List Bool) {cs : List In} {k : Nat} (h : k < cs.length) : lvX bs (cs.drop k) = mkT (lvS bs (cs.drop k)) :: lvX bs (cs.drop (k + 1)) := by
  rw [List.drop_eq_getElem_cons h]; rfl
theorem lvX_at (bs : List Bool) : ∀ (cs : List In) (k : Nat), k ≤ cs.length → (lvX bs cs)[k]? = some (mkT (lvS bs (cs.drop k)))
  | [], k, h => by obtain rfl : k = 0 := by simpa using h
                   rfl
  | x :: cs, 0, _ => rfl
  | x :: cs, k + 1, h => by show (lvX bs cs)[k]? = _; rw [lvX_at bs cs k (by simpa using h)]; rfl
theorem mkT_len6 (bs : List Bool) : (mkT bs).length ≤ 6 := by
  unfold mkT
  rw [List.length_map]
  exact Nat.le_trans (List.length_filter_le _ _) (by simp)
def SetsGot (w : World) (xss : List (List Int)) (e : Ending) (w' : World) : Prop := ∃ A0 c0, e = .returned (.slice A0 xss.length c0) ∧ OX w' w.heap.size w'.heap.size (.slice A0 xss.length c0) xss ∧ Below w.heap.size w w'

set_option maxHeartbeats 4000000 in
theorem cdSets_any (L B L' B' : Nat) (A A' : Option Addr) (c c' : Nat) (cs : List In) (bs : List Bool) (w : World) (hl40 : cs.length ≤ 40) (hgood : ∀ x ∈ cs, goodIn x = true) (hb6 : bs.length = 6) (hes : RS In.enc 5 w L B A cs) (hB : B ≤ w.heap.size) (hns : IS w L' B' A' (mkT bs)) (hB' : B' ≤ w.heap.size) :
    Calls Try.prog 182 #[.slice A cs.length c, .slice A' (mkT bs).length c'] w (SetsGot w (lvX bs cs)) := by
  obtain ⟨i0, hi', hz0', hz1', hz2'⟩ := info_parts Try.infoII
  have hJ0 := Lib.hid hi'
  have hJ1 := Lib.hid hz0'
  have hJ2 := Lib.hid hz1'
  have hJ3 := Lib.hid hz2'
  clear hi' hz0' hz1' hz2'
  have hm6 := mkT_len6 bs
  have H3 := Lib.hid (l1Own_any L' B' A' c' (mkT bs) w (by omega) hns hB')
  have hE := Lib.hid fun (W : World) (hW : Below w.heap.size w W) => hes.below hW hB
  have hBB := Lib.hid hB
  have hD := Lib.hid fun (k : Nat) (h : k < cs.length) => lvX_drop bs h
  have hS := Lib.hid fun (k : Nat) (h : k < cs.length) => lvS_drop bs h
  have hXl := Lib.hid fun (k : Nat) => lvX_len bs (cs.drop k)
  have hHd := Lib.hid fun (k : Nat) => lvX_head bs (cs.drop k)
  have hSl := Lib.hid fun (k : Nat) => (lvS_len bs (cs.drop k)).trans hb6
  have hX0 := Lib.hid (show lvX bs (cs.drop cs.length) = [mkT bs] by rw [List.drop_length]; rfl)
  have hXn := Lib.hid (show lvX bs (cs.drop 0) = lvX bs cs by rw [List.drop_zero])
  have hG := Lib.hid hgood
  have hw1 : IntKind.i64.wrap ((cs.length : Int) - 1) = (cs.length : Int) - 1 := by rw [IntKind.wrap_i64]; omega
  clear hes hB hns hB' hgood hb6
  go_enter Try.func182, Try.ntmps182
  go_wp2_with (fail)
  refine H3.out.mono ?_
  rintro e w1 ⟨A1, c1, rfl, ho1, hb1⟩
  have A2 := (Below.refl w1.heap.size w1).alloc (Nat.le_refl _) (.cells #[.slice A1 (mkT bs).length c1] 27)
  have hz1 := hb1.size
  have hX2 : Hid (OX (w1.alloc (.cells #[.slice A1 (mkT bs).length c1] 27)) w.heap.size (w1.alloc (.cells #[.slice A1 (mkT bs).length c1] 27)).heap.size (.slice (some ⟨w1.heap.size, 0, none⟩) 1 1) [mkT bs]) := by
    have hcb : CB 27 (w1.alloc (.cells #[.slice A1 (mkT bs).length c1] 27)) w1.heap.size [.slice A1 (mkT bs).length c1] := heap_alloc_new w1 _
    exact OX.of (okv_one hcb hz1 (by simp)) (RowsX.mk1 ((ho1.below A2 (Nat.le_refl _)).more A2.size))
  have hb2 := Lib.hid (hb1.trans (A2.mono hz1))
  clear A2 ho1 hb1
  go_wp2
  generalize w1.alloc (.cells #[.slice A1 (mkT bs).length c1] 27) = W2 at *
  go_loopw [5, 6] (fun v i wr => ∃ r : Nat, r ≤ cs.length ∧ i = .int .i64 ((r : Int) - 1) ∧ OX wr w.heap.size wr.heap.size v (lvX bs (cs.drop r)) ∧ Below w.heap.size w wr) (fun _ i _ => (intOf i + 1).toNat)
  case atStart => exact ⟨cs.length, Nat.le_refl _, rfl, by rw [hX0.out]; exact hX2.out, hb2.out⟩
  case round =>
    obtain ⟨r, hr, rfl, hox, hbel⟩ := hrel
    obtain ⟨A5, c5, rfl⟩ := hox.form
    have hX := Lib.hid hox
    have hBL := Lib.hid hbel
    clear hox
    cases r with
    | zero =>
      have e0 : ((0 : Nat) : Int) - 1 = -1 := by decide
      rw [e0]
      clear hbel
      rw [hXn.out] at hX ⊢
      go_wp2
      go_ret
      exact ⟨A5, c5, rfl, hX.out, hBL.out⟩
    | succ r =>
      have e0 : ((r + 1 : Nat) : Int) - 1 = (r : Int) := by omega
      rw [e0]
      have hrl : r < cs.length := hr
      have hri : (r : Int) < (cs.length : Int) := by omega
      have hr0 : (0 : Int) ≤ (r : Int) := by omega
      obtain ⟨b, o, rfl, ⟨_, hbB⟩, hc⟩ := In.cells (hE.out _ hbel) (by omega)
      obtain ⟨d1, d2, d3, d4, d5⟩ := hc r hrl
      have hg := Lib.hid (hG.out _ (List.getElem_mem hrl))
      have hXr := Lib.hid (hD.out r hrl)
      have hSr := Lib.hid (hS.out r hrl)
      have hl1 := hXl.out (r + 1)
      have hl6 := Lib.hid (hSl.out (r + 1))
      obtain ⟨t, ht⟩ := hHd.out (r + 1)
      have hlt0 : 0 < (lvX bs (cs.drop (r + 1))).length := by omega
      obtain ⟨xb, xo, Ai, ci, rfl, hxb, xc, hI⟩ := XS.at (OX.rs hX.out) hlt0
      have hx0 : (lvX bs (cs.drop (r + 1)))[0] = mkT (lvS bs (cs.drop (r + 1))) := by simp only [ht, List.getElem_cons_zero]
      rw [hx0] at xc hI
      have hln : (cs.drop (r + 1)).length ≤ 40 := by rw [List.length_drop]; omega
      clear hc hbel ht hx0
      have hbits := Lib.hid (lvB_bits hg.out hl6.out)
      generalize cs[r] = x at *
      generalize hLr : lvX bs (cs.drop r) = Lr at *
      have hLR := Lib.hid hLr
      clear hLr
      generalize lvX bs (cs.drop (r + 1)) = Lx at *
      generalize lvS bs (cs.drop (r + 1)) = lv at *
      generalize lvS bs (cs.drop r) = lv0 at *
      have hCB := Lib.hid (cdBefore_any w.heap.size wr.heap.size Ai ci x (mkT lv) wr.drew (mkT_len6 lv) (hI.below (Below.refl wr.heap.size wr).drew (Nat.le_refl _)) (Nat.le_refl _))
      have hXd := Lib.hid (show OX wr.drew w.heap.size wr.drew.heap.size (.slice (some ⟨xb, xo, none⟩) Lx.length c5) Lx from hX.out.below (Below.refl wr.heap.size wr).drew (Nat.le_refl _))
      have hBd := Lib.hid hBL.out.drew
      rw [hbits.out, ← hSr.out] at hCB
      have hLl : Lx.length ≤ 41 := by omega
      obtain ⟨op, d, a, b1, m⟩ := x
      dsimp only at d1 d2 d3 d4 d5 hCB
      have h6l := mkT_len6 lv
      clear hbits hSr hI hg
      have xc0 : wr.cell? ⟨xb, xo, none⟩ = some (.slice Ai (mkT lv).length ci) := xc
      have h0L : (0 : Int) < (Lx.length : Int) := by omega
      clear xc hl1 hln
      go_wp2_with (fail)
      go_region_law (first
        | (go_simp; go_at_call 180; (with_reducible refine hCB.out.mono ?_); rintro e w3 ⟨A3, c3, rfl, ho3, hb3⟩; obtain ⟨vs, hvn, HL, HN, H1, HK⟩ := consX hXd.out hBd.out.size hb3 ho3 hlt0; have hB3 := Lib.hid (hBd.out.trans (hb3.mono hBd.out.size)); have HL := Lib.hid HL; have HN := Lib.hid HN; have H1 := Lib.hid H1; have HK := Lib.hid HK; have hz3 := Lib.hid hB3.out.size; clear ho3 hb3)
        | (refine step_append_lies _ rfl _ _ 50 rfl w.heap.size 27 i0 _ 1 24 Try.underlying50 hJ0.out hJ1.out hJ2.out hJ3.out rfl (by decide) _ 1 _ (by rfl) HL.out ⟨xb, xo, none⟩ Lx.length c5 vs (by rfl) (by omega) HN.out H1.out hlt0 (by unfold maxLen; omega) (by omega) (by have := hz3.out; simp; omega) (w3.heap.size + 1) (by simp) ?_; intro g' cap w5 hown5 hgr5 _ _))
      all_goals
        have hX5 := HK.out g' cap w5 hown5 hgr5
        have hB5 := Lib.hid ((hB3.out.alloc hz3.out (.cells #[.slice A3 (mkT lv0).length c3] 27)).grown hgr5 (by have := hz3.out; simp; omega) (fun k hk => by simp [Value.ownBlock] at hk; have := hz3.out; omega))
        have hX6 := Lib.hid (show OX w5 w.heap.size w5.heap.size (.slice (some ⟨g', 0, none⟩) (1 + Lx.length) cap) Lr from by rw [hXr.out]; exact hX5)
        clear hX5 hown5 hgr5
        go_wp2
        go_roundw
        case rel => exact ⟨r, by omega, rfl, by rw [hLR.out]; exact hX6.out, hB5.out⟩
        case measure => first | (simp [intOf]; done) | (simp [intOf]; omega)
end Go.Proofs.Ytmhdijklindipaa

/- slices.Reverse of instructions, in place. -/
namespace Go.Proofs.Ytmhdijklindipaa
open Go.RowKit
set_option linter.unusedVariables false
set_option maxRecDepth 100000

/-- k instructions of each end exchanged. -/
def revK (xs : List In) (k : Nat) : List In := (List.range xs.length).map fun m => if m < k ∨ xs.length ≤ m + k then xs.getD (xs.length - 1 - m) zeroIn else xs.getD m zeroIn
theorem revK_len (xs : List In) (k : Nat) : (revK xs k).length = xs.length := by simp [revK]
theorem revK_get {xs : List In} {k m : Nat} (h : m < (revK xs k).length) : (revK xs k)[m] = if m < k ∨ xs.length ≤ m + k then xs.getD (xs.length - 1 - m) zeroIn else xs.getD m zeroIn := by simp [revK]
theorem revK_zero (xs : List In) : revK xs 0 = xs := by
  refine List.ext_getElem (revK_len _ _) fun m h1 h2 => ?_
  rw [revK_get h1, if_neg (by omega)]; exact getD_in h2
theorem revK_mid {xs : List In} {k m : Nat} (h : m < (revK xs k).length) (h1 : k ≤ m) (h2 : m + k < xs.length) : (revK xs k)[m] = xs.getD m zeroIn := by
  rw [revK_get h, if_neg (by omega)]
theorem revK_succ {xs : List In} {k j : Nat} (hj : j + k + 1 = xs.length) (hk : k < j) : revK xs (k + 1) = ((revK xs k).set k (xs.getD j zeroIn)).set j (xs.getD k zeroIn) := by
  refine List.ext_getElem (by rw [List.length_set, List.length_set, revK_len, revK_len]) fun m h1 h2 => ?_
  have hm : m < xs.length := by rw [revK_len] at h1; exact h1
  rw [revK_get h1, List.getElem_set]
  by_cases e1 : j = m
  · rw [if_pos e1, if_pos (by omega)]; congr 1; omega
  · rw [if_neg e1, List.getElem_set]
    by_cases e2 : k = m
    · rw [if_pos e2, if_pos (by omega)]; congr 1; omega
    · rw [if_neg e2, revK_get]
      by_cases e3 : m < k ∨ xs.length ≤ m + k
      · rw [if_pos (by omega), if_pos e3]
      · rw [if_neg (by omega), if_neg e3]
theorem revK_end {xs : List In} {k : Nat} (h : xs.length ≤ k + k + 1) : revK xs k = xs.reverse := by
  refine List.ext_getElem (by rw [revK_len, List.length_reverse]) fun m h1 h2 => ?_
  have hm : m < xs.length := by rw [revK_len] at h1; exact h1
  rw [revK_get h1, List.getElem_reverse, ← getD_in]
  by_cases e : m < k ∨ xs.length ≤ m + k
  · rw [if_pos e]
  · rw [if_neg e]; congr 1; omega

theorem CB.five {w : World} {g : Nat} {xs : List In} {rest : List Value} (h : CB 56 w g (xs.flatMap In.enc ++ rest)) {i : Nat} (hi : i < xs.length) {x : In} (hx : xs[i] = x) :
    w.cell? ⟨g, i * 5, none⟩ = some (.string x.op) ∧ w.cell? ⟨g, i * 5 + 1, none⟩ = some (.int .i64 x.d) ∧ w.cell? ⟨g, i * 5 + 2, none⟩ = some (.int .i64 x.a) ∧ w.cell? ⟨g, i * 5 + 3, none⟩ = some (.int .i64 x.b) ∧ w.cell? ⟨g, i * 5 + 4, none⟩ = some (.int .i64 x.m) := by
  subst hx
  exact ⟨h.at In.hk i hi 0 _ rfl, h.at In.hk i hi 1 _ rfl, h.at In.hk i hi 2 _ rfl, h.at In.hk i hi 3 _ rfl, h.at In.hk i hi 4 _ rfl⟩

set_option maxHeartbeats 4000000 in
theorem revI_any (g c : Nat) (xs : List In) (rest : List Value) (w : World) (hl : xs.length ≤ 1048576) (hcb : CB 56 w g (xs.flatMap In.enc ++ rest)) :
    Calls Try.prog 177 #[.slice (some ⟨g, 0, none⟩) xs.length c] w fun e w' => e = .returned (.tuple #[]) ∧ CB 56 w' g (xs.reverse.flatMap In.enc ++ rest) ∧ Chg g (g + 1) w w' := by
  have hC0 := Lib.hid hcb
  have hz0 := Lib.hid (revK_zero xs)
  have hS := Lib.hid fun (k j : Nat) (hj : j + k + 1 = xs.length) (hk : k < j) => revK_succ (xs := xs) hj hk
  have hE := Lib.hid fun (k : Nat) (h : xs.length ≤ k + k + 1) => revK_end (xs := xs) h
  have hL := Lib.hid (revK_len xs)
  have hM := Lib.hid fun (k m : Nat) (h : m < (revK xs k).length) (h1 : k ≤ m) (h2 : m + k < xs.length) => revK_mid (xs := xs) h h1 h2
  clear hcb
  generalize revK xs = F at *
  obtain ⟨n, hn⟩ : ∃ n, n = xs.length := ⟨_, rfl⟩
  rw [← hn] at hl hS hE hL hM ⊢
  generalize xs.reverse = Z at *
  have hNN := Lib.hid hn
  clear hn
  have hw1 : IntKind.i64.wrap ((n : Int) - 1) = (n : Int) - 1 := by rw [IntKind.wrap_i64]; omega
  go_enter Try.func177, Try.ntmps177
  go_wp2
  go_loopw [2, 3] (fun i j wr => ∃ (k : Nat) (jz : Int), i = .int .i64 k ∧ j = .int .i64 jz ∧ jz + k + 1 = n ∧ k ≤ n ∧ CB 56 wr g ((F k).flatMap In.enc ++ rest) ∧ Chg g (g + 1) w wr) (fun i _ _ => n - (intOf i).toNat)
  case atStart => exact ⟨0, (n : Int) - 1, rfl, rfl, by omega, Nat.zero_le _, by rw [hz0.out]; exact hC0.out, Chg.refl _ _ _⟩
  case round =>
    obtain ⟨k, jz, rfl, rfl, hjz, hkn, hcb, hch⟩ := hrel
    have hCB := Lib.hid hcb
    have hCh := Lib.hid hch
    have hLk := hL.out k
    clear hch
    by_cases hlt : (k : Int) < jz
    · obtain ⟨j, rfl⟩ := Int.eq_ofNat_of_zero_le (show 0 ≤ jz by omega)
      have hj1 : (j : Int) < (n : Int) := by omega
      have hk1 : (k : Int) < (n : Int) := by omega
      have hj0 : (0 : Int) ≤ (j : Int) := by omega
      have hk0 : (0 : Int) ≤ (k : Int) := by omega
      have hjj : j < (F k).length := by omega
      have hkk : k < (F k).length := by omega
      have hSk := Lib.hid (hS.out k j (by omega) (by omega))
      have ex := Lib.hid (hM.out k k hkk (Nat.le_refl _) (by omega))
      have ey := Lib.hid (hM.out k j hjj (by omega) (by omega))
      generalize xs.getD k zeroIn = x at *
      generalize xs.getD j zeroIn = y at *
      have hJ := Lib.hid hjz
      have hLK := Lib.hid hLk
      obtain ⟨c1, c2, c3, c4, c5⟩ := CB.five hcb hkk ex.out
      obtain ⟨d1, d2, d3, d4, d5⟩ := CB.five hcb hjj ey.out
      have f1 := hcb.frozen (k * 5)
      have f2 := hcb.frozen (k * 5 + 1)
      have f3 := hcb.frozen (k * 5 + 2)
      have f4 := hcb.frozen (k * 5 + 3)
      have f5 := hcb.frozen (k * 5 + 4)
      have g1 := hcb.frozen (j * 5)
      have g2 := hcb.frozen (j * 5 + 1)
      have g3 := hcb.frozen (j * 5 + 2)
      have g4 := hcb.frozen (j * 5 + 3)
      have g5 := hcb.frozen (j * 5 + 4)
      obtain ⟨op, d, a, b1, m⟩ := x
      obtain ⟨op', d', a', b1', m'⟩ := y
      dsimp only at c1 c2 c3 c4 c5 d1 d2 d3 d4 d5
      have hkj := Lib.hid (show k < j by omega)
      have HK := Lib.hid hkk
      have HJ := Lib.hid hjj
      clear hcb hjz hLk hkk hjj ex ey
      generalize hFF : F (k + 1) = FF at *
      have HFF := Lib.hid hFF
      clear hFF
      generalize hFk : F k = Fk at *
      clear hFk
      go_wp2_with (fail)
      go_region_with (fail)
      all_goals
        have h1 := hCB.out.store In.hk k HK.out ⟨op', d', a', b1', m'⟩
        have h2 := h1.store In.hk j (by rw [List.length_set]; exact HJ.out) ⟨op, d, a, b1, m⟩
        have hfin := Lib.hid h2
        have hbf := Lib.hid (chg_setCells (In.enc ⟨op, d, a, b1, m⟩) g (j * 5) (chg_setCells (In.enc ⟨op', d', a', b1', m'⟩) g (k * 5) hCh.out ⟨Nat.le_refl _, Nat.lt_succ_self _⟩) ⟨Nat.le_refl _, Nat.lt_succ_self _⟩)
        clear h1 h2
        simp only [setCells, In.enc, Nat.add_assoc, Nat.reduceAdd] at hfin hbf
        clear c1 c2 c3 c4 c5 d1 d2 d3 d4 d5 f1 f2 f3 f4 f5 g1 g2 g3 g4 g5 hCB hCh
        generalize (World.setCell _ _ _) = W at hfin hbf ⊢
        go_wp2
        go_roundw
        case rel => exact ⟨k + 1, (j : Int) - 1, by go_num, rfl, by have := hJ.out; omega, by omega, by rw [HFF.out, hSk.out]; exact hfin.out, hbf.out.drew⟩
        case measure => simp [intOf]; omega
    · have hEk := Lib.hid (hE.out k (by omega))
      clear hLk
      go_wp2
      go_end0
      exact ⟨rfl, by rw [← hEk.out]; exact hCB.out, hCh.out⟩
theorem revI_nil (c : Nat) (w : World) : Calls Try.prog 177 #[.slice none 0 c] w fun e w' => e = .returned (.tuple #[]) ∧ w' = w := by
  go_enter Try.func177, Try.ntmps177
  go_wp2
  go_loopw [2, 3] (fun i j wr => i = .int .i64 0 ∧ j = .int .i64 (-1) ∧ wr = w) (fun _ _ _ => 0)
  case atStart => exact ⟨rfl, rfl, rfl⟩
  case round =>
    obtain ⟨rfl, rfl, rfl⟩ := hrel
    go_wp2
    go_end0
    exact ⟨rfl, rfl⟩
end Go.Proofs.Ytmhdijklindipaa

/- slices.Backward over nodes: what it hands to a loop's body. -/
namespace Go.Proofs.Ytmhdijklindipaa
open Go.RowKit Go.Shelf
set_option linter.unusedVariables false
attribute [local go_sem] Oper.semAt_some

/-- A value in a box. -/
def BX (w : World) (b : Nat) (t : TypeId) (v : Value) : Prop := w.heap[b]? = some (.cells #[v] t (0, 0))
theorem BX.lt {w : World} {b : Nat} {t : TypeId} {v : Value} (h : BX w b t v) : b < w.heap.size := by
  rcases Nat.lt_or_ge b w.heap.size with hlt | hge
  · exact hlt
  · unfold BX at h; rw [Array.getElem?_eq_none hge] at h; cases h
theorem BX.new (w : World) (t : TypeId) (v : Value) : BX (w.alloc (.cells #[v] t)) w.heap.size t v := heap_alloc_new w _
theorem BX.cell {w : World} {b : Nat} {t : TypeId} {v : Value} (h : BX w b t v) : w.cell? ⟨b, 0, none⟩ = some v := cell_of_row w b 0 #[v] t (0, 0) h
theorem BX.fz {w : World} {b : Nat} {t : TypeId} {v : Value} (h : BX w b t v) : w.frozen? ⟨b, 0, none⟩ = false := by
  unfold BX at h; simp [World.frozen?, h]
theorem BX.below {w w' : World} {b B : Nat} {t : TypeId} {v : Value} (h : BX w b t v) (hb : Below B w w') (hB : b < B) : BX w' b t v := (hb.block b hB).trans h
theorem BX.next {w w' : World} {b : Nat} {t : TypeId} {v : Value} (h : BX w b t v) (hb : Below w.heap.size w w') : BX w' b t v := h.below hb h.lt
theorem BX.al {w : World} {b : Nat} {t : TypeId} {v : Value} (h : BX w b t v) (o : Obj) : BX (w.alloc o) b t v := h.next ((Below.refl _ _).alloc (Nat.le_refl _) o)
theorem BX.set {w : World} {b : Nat} {t : TypeId} {v : Value} (h : BX w b t v) (u : Value) : BX (w.setCell ⟨b, 0, none⟩ u) b t u := by
  unfold BX at h ⊢; simp [World.setCell, Array.getElem?_modify, h]
theorem BX.other {w : World} {b q : Nat} {t : TypeId} {v : Value} (h : BX w b t v) (j : Nat) (u : Value) (hne : q ≠ b) : BX (w.setCell ⟨q, j, none⟩ u) b t v :=
  (Below.heap_setCell w ⟨q, j, none⟩ u b (by simpa using Ne.symm hne)).trans h
theorem BX.kept {w w' : World} {b : Nat} {t : TypeId} {v : Value} {row : Option Nat} (h : BX w b t v) (hg : w.grownBy w' row) (hne : row ≠ some b) : BX w' b t v := (hg.block b h.lt (fun e => hne e.symm)).trans h
/-- A turn of what is no cells leaves a block of cells. -/
theorem row_not {w : World} {row : Option Nat} {b : Nat} {cs : Array Value} {t : TypeId} {x : Nat × Nat} (h : w.heap[b]? = some (.cells cs t x)) (hr : ∀ r, row = some r → ∃ o : Obj, w.heap[r]? = some o ∧ o.isCells = false) : row ≠ some b := by
  intro e
  obtain ⟨o, ho, hc⟩ := hr b e
  rw [h] at ho; injection ho with ho; subst ho; cases hc
def uptoB {α : Type} (f : Nat → α) (k : Nat) : List α := (List.range k).map f
theorem uptoB_succ {α : Type} (f : Nat → α) (k : Nat) : uptoB f (k + 1) = uptoB f k ++ [f k] := by simp [uptoB, List.range_succ]
theorem uptoB_length {α : Type} (f : Nat → α) (k : Nat) : (uptoB f k).length = k := by simp [uptoB]
theorem uptoB_prefix {α : Type} (f : Nat → α) {k n : Nat} (h : k ≤ n) : uptoB f k <+: uptoB f n := by
  obtain ⟨d, rfl⟩ := Nat.exists_eq_add_of_le h
  refine ⟨(List.range d).map (fun i => f (k + i)), ?_⟩
  simp [uptoB, List.range_add]
/-- What a node is as a value. -/
def ndV (x : Nd) : Value := .agg #[.string x.op, .int .i64 x.a, .int .i64 x.b, .int .i64 x.v]
/-- What slices.Backward hands to a round: a place and a node. -/
abbrev Bw (es : List Nd) := { x : Nat × Nd // x.1 < es.length }
/-- What comes from the last node back. -/
def bwF (es : List Nd) (h : 1 ≤ es.length) (k : Nat) : Bw es := ⟨(es.length - 1 - k, es.getD (es.length - 1 - k) zeroNd), by show es.length - 1 - k < es.length; omega⟩

/-- What a round keeps: what lay below n₀, and the box with the slice. -/
def KpB (n₀ Bs : Nat) (t : TypeId) (W W' : World) : Prop := Below n₀ W W' ∧ ∀ v, BX W Bs t v → BX W' Bs t v
theorem KpB.t {n₀ Bs : Nat} {t : TypeId} {A B C : World} (h1 : KpB n₀ Bs t A B) (h2 : KpB n₀ Bs t B C) : KpB n₀ Bs t A C := ⟨h1.1.trans h2.1, fun v h => h2.2 v (h1.2 v h)⟩
theorem KpB.b {n₀ Bs : Nat} {t : TypeId} {w : World} (hn : n₀ ≤ w.heap.size) (W : World) (l : Nat) (o o' : Obj) (h1 : w.heap.size ≤ l) (h2 : W.heap[l]? = some o) (h3 : o.isCells = false) (h4 : o.isWalk = false) : KpB n₀ Bs t W (W.putObj l o') := by
  refine ⟨belowK_b hn W l o o' h1 h2 h3 h4, fun v hb => ?_⟩
  have hne : Bs ≠ l := by
    intro e
    subst e
    unfold BX at hb
    rw [hb] at h2; injection h2 with h2; subst h2; cases h3
  exact (World.putObj_heap_other hne).trans hb

end Go.Proofs.Ytmhdijklindipaa

/- slices.Backward over instructions: what it hands to a loop's body. -/
namespace Go.Proofs.Ytmhdijklindipaa
open Go.RowKit Go.Shelf
set_option linter.unusedVariables false
attribute [local go_sem] Oper.semAt_some

def inV (x : In) : Value := .agg #[.string x.op, .int .i64 x.d, .int .i64 x.a, .int .i64 x.b, .int .i64 x.m]
/-- What slices.Backward hands to a round: a place and an instruction of the code. -/
abbrev BwI (es : List In) := { x : Nat × In // x.1 < es.length ∧ es[x.1]? = some x.2 }
def bL (es : List In) : List (BwI es) := (List.finRange es.length).reverse.map fun i => ⟨(i.1, es[i.1]'i.2), i.2, List.getElem?_eq_getElem i.2⟩
theorem bL_length (es : List In) : (bL es).length = es.length := by simp [bL]
theorem bL_succ {es : List In} {r : Nat} (h : r < es.length) : (bL es).take (es.length - (r + 1) + 1) = (bL es).take (es.length - (r + 1)) ++ [⟨(r, es[r]), h, List.getElem?_eq_getElem h⟩] := by
  have hk : es.length - (r + 1) < (bL es).length := by rw [bL_length]; omega
  rw [List.take_succ_eq_append_getElem hk]
  congr 2
  apply Subtype.ext
  have e : es.length - 1 - (es.length - (r + 1)) = r := by omega
  simp [bL, e]

set_option maxRecDepth 100000 in
set_option maxHeartbeats 4000000 in
theorem bwI1_in (F : Fence) (n : Nat) (hf : F.fn 244) (hro : F.round = none) (hn : 1 ≤ n) (l Bs n₀ L B : Nat) (A : Option Addr) (cap : Nat) (es : List In) (hl : es.length ≤ 1048576) (hB : B ≤ n₀) (W : World) (hes : RS In.enc 5 W L B A es) (J Jx : List (BwI es) → World → Prop)
    (hY : ∀ pre x W, J pre W → pre.length < es.length → YieldAt F (n - 1) Try.prog l #[.int .i64 (x.1.1 : Int), inV x.1.2] W fun e W' =>
      (e = .returned (.bool true) ∧ J (pre ++ [x]) W' ∧ KpB n₀ Bs 42 W W') ∨ (e = .returned (.bool false) ∧ Jx (pre ++ [x]) W'))
    (hBs : BX W Bs 42 (.slice A es.length cap))
    (h0 : J [] W) :
    CallsIn F n Try.prog 244 #[.func (.yield l) #[] #[], .pointer (some ⟨Bs, 0, none⟩)] W fun e W' => (∃ v, e = .returned v) ∧
      ((∃ ys, ys = (bL es).take es.length ∧ J ys W') ∨ (∃ pre, (∃ k, k ≤ es.length ∧ pre = (bL es).take k) ∧ Jx pre W')) := by
  refine callsIn_of_wp Try.func244 rfl hf ?_ hro
  simp only [Try.ntmps244, List.size_toArray, List.length_cons, List.length_nil, Nat.reduceAdd, Nat.reduceSub, Array.replicate_succ, Array.replicate_zero, List.push_toArray, List.append_toArray, List.nil_append, List.cons_append]
  have hl2 : (es.length : Int) ≤ 1048576 := by omega
  have hw1 : IntKind.i64.wrap ((es.length : Int) - 1) = (es.length : Int) - 1 := by rw [IntKind.wrap_i64]; omega
  have cS0 := hBs.cell
  gi_wp2
  gi_loopw [3] (fun i wr => ∃ r : Nat, r ≤ es.length ∧ i = .int .i64 ((r : Int) - 1) ∧ J ((bL es).take (es.length - r)) wr ∧ KpB n₀ Bs 42 W wr)
    (fun i _ => (intOf i + 1).toNat)
  case atStart => exact ⟨es.length, Nat.le_refl _, rfl, by rw [Nat.sub_self]; exact h0, Below.refl _ _, fun _ h => h⟩
  case round =>
    obtain ⟨r, hr, rfl, hJs, hnx⟩ := hrel
    cases r with
    | zero =>
      have e0 : ((0 : Nat) : Int) - 1 = -1 := by decide
      rw [e0]
      gi_wp2
      go_end0
      exact ⟨⟨_, rfl⟩, .inl ⟨_, rfl, by simpa using hJs⟩⟩
    | succ r =>
      have e0 : ((r + 1 : Nat) : Int) - 1 = (r : Int) := by omega
      rw [e0]
      have hri : (r : Int) < (es.length : Int) := by omega
      have hr0 : (0 : Int) ≤ (r : Int) := by omega
      have hrl : r < es.length := hr
      have cS := (hnx.2 _ hBs).cell
      obtain ⟨b, off, rfl, ⟨_, hbB⟩, hc⟩ := In.cells hes (by omega)
      have hb : b < n₀ := by omega
      obtain ⟨c1, c2, c3, c4, c5⟩ := hc r hrl
      have d1 := (hnx.1.cell (p := ⟨b, off + r * 5, none⟩) hb).trans c1
      have d2 := (hnx.1.cell (p := ⟨b, off + r * 5 + 1, none⟩) hb).trans c2
      have d3 := (hnx.1.cell (p := ⟨b, off + r * 5 + 2, none⟩) hb).trans c3
      have d4 := (hnx.1.cell (p := ⟨b, off + r * 5 + 3, none⟩) hb).trans c4
      have d5 := (hnx.1.cell (p := ⟨b, off + r * 5 + 4, none⟩) hb).trans c5
      clear c1 c2 c3 c4 c5
      have hsucc : (bL es).take (es.length - r) = (bL es).take (es.length - (r + 1)) ++ [⟨(r, es[r]), hrl, List.getElem?_eq_getElem hrl⟩] := by
        have e : es.length - r = es.length - (r + 1) + 1 := by omega
        rw [e]; exact bL_succ hrl
      obtain ⟨fn, tmps, assign, body, hy, hR⟩ := hY _ ⟨(r, es[r]), hrl, List.getElem?_eq_getElem hrl⟩ wr hJs (by rw [List.length_take, bL_length]; omega)
      dsimp only [inV] at hy
      have hw2 : IntKind.i64.wrap ((r : Int) - 1) = (r : Int) - 1 := by rw [IntKind.wrap_i64]; omega
      gi_wp2
      refine hR.mono ?_
      rintro e W3 (⟨rfl, hJ3, hk3⟩ | ⟨rfl, hJx3⟩)
      · gi_wp2
        go_roundw
        case rel => exact ⟨r, by omega, rfl, by rw [hsucc]; exact hJ3, hnx.t hk3⟩
        case measure => first | (simp [intOf]; done) | (simp [intOf]; omega)
      · gi_wp2
        refine bodyPost_ret (results_none rfl _ _ _) rfl ?_
        exact ⟨⟨_, rfl⟩, .inr ⟨_, ⟨es.length - r, by omega, hsucc.symm⟩, hJx3⟩⟩

/-- slices.Backward(e): the slice value is boxed; the function value captures the box. -/
theorem bwI_in (F : Fence) (n : Nat) (hf : F.fn 175) (hro : F.round = none) (a : Option Addr) (len cap : Nat) (w : World) :
    CallsIn F n Try.prog 175 #[.slice a len cap] w fun e w' => e = .returned (.func (.func 244) #[] #[.pointer (some ⟨w.heap.size, 0, none⟩)]) ∧ w' = w.alloc (.cells #[.slice a len cap] 42) := by
  refine callsIn_of_wp Try.func175 rfl hf ?_ hro
  simp only [Try.ntmps175, List.size_toArray, List.length_cons, List.length_nil, Nat.reduceAdd, Nat.reduceSub, Array.replicate_succ, Array.replicate_zero, List.push_toArray, List.append_toArray, List.nil_append, List.cons_append]
  gi_wp2
  go_ret
  exact ⟨rfl, rfl⟩

/-- What slices.Backward hands back stops when all nodes have come, or when some of them have come: for every body that keeps what lay below n₀. -/
theorem bwI_stops (F : Fence) (n : Nat) (hf : F.fn 244) (hro : F.round = none) (hn : 1 ≤ n) (Bs n₀ L B : Nat) (A : Option Addr) (cap : Nat) (es : List In) (hl : es.length ≤ 1048576) (w : World) (hn₀ : n₀ ≤ w.heap.size)
    (hc : BX w Bs 42 (.slice A es.length cap)) (hes : RS In.enc 5 w L B A es) (hB : B ≤ n₀) :
    SeqStopsK F n Try.prog 244 #[.pointer (some ⟨Bs, 0, none⟩)] (fun x : BwI es => #[.int .i64 (x.1.1 : Int), inV x.1.2]) (KpB n₀ Bs 42) (fun ys => ys = (bL es).take es.length) (fun pre => ∃ k, k ≤ es.length ∧ pre = (bL es).take k) es.length w := fun l J Jx W hW _ _ hY h0 => by
  have hc' := hc.next hW
  exact bwI1_in F n hf hro hn l Bs n₀ L B A cap es hl hB W (hes.below hW (by omega)) J Jx hY hc' h0
end Go.Proofs.Ytmhdijklindipaa

/- DropDead of the program. -/
namespace Go.Proofs.Ytmhdijklindipaa
open Go.RowKit Go.Shelf
set_option linter.unusedVariables false
set_option maxRecDepth 100000
attribute [local go_sem] Oper.semAt_some

theorem bx_chg {w w' : World} {b lo hi : Nat} {t : TypeId} {v : Value} (h : BX w b t v) (hc : Chg lo hi w w') (hd : b < lo ∨ hi ≤ b) : BX w' b t v := (hc.block b h.lt hd).trans h
def ddF (p : List In × List Bool) (x : In) : List In × List Bool := if p.2.getD x.d.toNat false = true then (p.1 ++ [x], bkB p.2 x) else p
def ddP {cs : List In} (bs : List Bool) (pre : List (BwI cs)) : List In × List Bool := (pre.map fun x => x.1.2).foldl ddF ([], bs)
theorem ddP_snoc {cs : List In} (bs : List Bool) (pre : List (BwI cs)) (x : BwI cs) : ddP bs (pre ++ [x]) = ddF (ddP bs pre) x.1.2 := by
  unfold ddP; rw [List.map_append, List.foldl_append]; rfl
theorem bL_map (cs : List In) : (bL cs).map (fun x => x.1.2) = cs.reverse := by
  refine List.ext_getElem (by simp [bL]) fun i h1 h2 => ?_
  simp [bL]
theorem ddP_all (cs : List In) (bs : List Bool) : ddP bs ((bL cs).take cs.length) = ((ddS bs cs).1.reverse, (ddS bs cs).2) := by
  rw [show (bL cs).take cs.length = bL cs from List.take_of_length_le (by rw [bL_length]; exact Nat.le_refl _)]
  unfold ddP
  rw [bL_map, List.foldl_reverse]
  induction cs with
  | nil => rfl
  | cons x cs ih =>
    rw [List.foldr_cons, ih]
    show ddF ((ddS bs cs).1.reverse, (ddS bs cs).2) x = ((ddStep x (ddS bs cs)).1.reverse, (ddStep x (ddS bs cs)).2)
    unfold ddF ddStep
    dsimp only
    split
    · simp
    · rfl
theorem ddP_len {cs : List In} (bs : List Bool) (hl : bs.length = 6) (pre : List (BwI cs)) : (ddP bs pre).1.length ≤ pre.length ∧ (ddP bs pre).2.length = 6 := by
  unfold ddP
  have : ∀ (l : List In) (p : List In × List Bool), p.2.length = 6 → (l.foldl ddF p).1.length ≤ p.1.length + l.length ∧ (l.foldl ddF p).2.length = 6 := by
    intro l
    induction l with
    | nil => intro p h; exact ⟨Nat.le_refl _, h⟩
    | cons x l ih =>
      intro p h
      rw [List.foldl_cons]
      have h2 : (ddF p x).2.length = 6 ∧ (ddF p x).1.length ≤ p.1.length + 1 := by
        unfold ddF
        split
        · exact ⟨by rw [bkB_len]; exact h, by simp⟩
        · exact ⟨h, by omega⟩
      have := ih (ddF p x) h2.1
      exact ⟨by simp only [List.length_cons]; omega, this.2⟩
  have := this (pre.map fun x => x.1.2) ([], bs) hl
  simpa using this

/-- What lies in the boxes of DropDead. -/
structure DD (w0 W : World) (p6 p7 Bs : Nat) (bs : List Bool) (V : Value) (kept : List In) : Prop where
  h6 : w0.heap.size ≤ p6
  h67 : p6 < p7
  h7B : p7 < Bs
  b6 : BT W p6 bs
  b7 : BX W p7 42 V
  ok : OK In.enc 5 56 W (Bs + 1) W.heap.size V kept
  be : Below w0.heap.size w0 W
  hB : Bs + 1 ≤ W.heap.size
theorem bt_not {w : World} {row : Option Nat} {g : Nat} {bs : List Bool} (h : BT w g bs) (hr : ∀ r, row = some r → ∃ o : Obj, w.heap[r]? = some o ∧ o.isCells = false) : row ≠ some g := by
  intro e
  obtain ⟨o, ho, hc⟩ := hr g e
  rw [show w.heap[g]? = some (.cells (boolCells bs) 143 (0, 0)) from h] at ho; injection ho with ho; subst ho; cases hc
theorem oki_not {w : World} {row : Option Nat} {lo hi : Nat} {v : Value} {xs : List In} (h : OK In.enc 5 56 w lo hi v xs) (hr : ∀ r, row = some r → ∃ o : Obj, w.heap[r]? = some o ∧ o.isCells = false) : v.ownBlock = none ∨ v.ownBlock ≠ row := by
  rcases h.1.2 with ⟨rfl, _⟩ | ⟨g, cap, cur, rfl, _, hh, _⟩
  · exact .inl rfl
  · exact .inr (fun e => row_not hh hr e.symm)
theorem DD.kept {w0 W W' : World} {p6 p7 Bs : Nat} {bs : List Bool} {V : Value} {kept : List In} {row : Option Nat} (h : DD w0 W p6 p7 Bs bs V kept) (hg : W.grownBy W' row) (hr : ∀ r, row = some r → w0.heap.size ≤ r ∧ ∃ o : Obj, W.heap[r]? = some o ∧ o.isCells = false) : DD w0 W' p6 p7 Bs bs V kept := by
  have hr' : ∀ r, row = some r → ∃ o : Obj, W.heap[r]? = some o ∧ o.isCells = false := fun r e => (hr r e).2
  refine ⟨h.h6, h.h67, h.h7B, (hg.block p6 h.b6.lt (fun e => bt_not h.b6 hr' e.symm)).trans h.b6, h.b7.kept hg (row_not h.b7 hr'), OK.more ⟨h.ok.1.kept hg (oki_not h.ok hr'), h.ok.2⟩ hg.size, h.be.grown hg h.be.size (fun k e => (hr k e).1), Nat.le_trans h.hB hg.size⟩
theorem DD.below {w0 W W' : World} {p6 p7 Bs : Nat} {bs : List Bool} {V : Value} {kept : List In} (h : DD w0 W p6 p7 Bs bs V kept) (hb : Below W.heap.size W W') : DD w0 W' p6 p7 Bs bs V kept :=
  ⟨h.h6, h.h67, h.h7B, h.b6.next hb h.b6.lt, h.b7.next hb, (h.ok.below hb (Nat.le_refl _)).more hb.size, h.be.trans (hb.mono h.be.size), Nat.le_trans h.hB hb.size⟩
theorem DD.lay {w0 W W' : World} {p6 p7 Bs : Nat} {bs bs' : List Bool} {V : Value} {kept : List In} (h : DD w0 W p6 p7 Bs bs V kept) (hc : Chg p6 (p6 + 1) W W') (hb : BT W' p6 bs') : DD w0 W' p6 p7 Bs bs' V kept := by
  have h6 := h.h6; have h67 := h.h67; have h7B := h.h7B
  exact ⟨h6, h67, h7B, hb, bx_chg h.b7 hc (.inr (by omega)), (h.ok.chg hc (.inr (by omega))).more hc.size, below_chg h.be hc h.be.size (by omega), Nat.le_trans h.hB hc.size⟩
theorem DD.push {w0 W W' : World} {p6 p7 Bs : Nat} {bs : List Bool} {V v' : Value} {kept : List In} {x : In} (h : DD w0 W p6 p7 Bs bs V kept) (hown : W'.ownsRow (Bs + 1) 56 5 v' (kept.length + 1) (kept.flatMap In.enc ++ In.enc x)) (hg : W.grownBy W' V.ownBlock) : DD w0 (W'.setCell ⟨p7, 0, none⟩ v') p6 p7 Bs bs v' (kept ++ [x]) := by
  have h6 := h.h6; have h67 := h.h67; have h7B := h.h7B
  have hlo := h.ok.lo
  have nb : ∀ b, b ≤ Bs → V.ownBlock ≠ some b := fun b hb e => by have := (hlo b e).1; omega
  have hc : Chg p7 (p7 + 1) W' (W'.setCell ⟨p7, 0, none⟩ v') := (Chg.refl p7 (p7 + 1) W').setCell (p := ⟨p7, 0, none⟩) ⟨Nat.le_refl _, Nat.lt_succ_self _⟩ _
  have hO : OK In.enc 5 56 W' (Bs + 1) W'.heap.size v' (kept ++ [x]) := by
    refine ⟨?_, fun j hj => (hown.lt j hj).2⟩
    rw [List.length_append, List.flatMap_append]; simpa using hown
  refine ⟨h6, h67, h7B, ?_, (h.b7.kept hg (nb _ (by omega))).set _, (hO.chg hc (.inr (by omega))).more hc.size, ?_, Nat.le_trans h.hB (Nat.le_trans hg.size hc.size)⟩
  · exact (show BT W' p6 bs from (hg.block p6 h.b6.lt (fun e => nb p6 (by omega) e.symm)).trans h.b6).chg hc (.inl h67)
  · exact below_chg (h.be.grown hg h.be.size (fun k e => by have := (hlo k e).1; omega)) hc (Nat.le_trans h.be.size hg.size) (by omega)
theorem keeps_belowI {n Bs : Nat} {t : TypeId} {W W' : World} (hb : Below W.heap.size W W') (hn : n ≤ W.heap.size) : KeepsOthers W W' ∧ KpB n Bs t W W' :=
  ⟨⟨hb.size, fun k o hk _ => (hb.block k (Array.getElem?_eq_some_iff.1 hk).1).trans hk⟩, hb.mono hn, fun v h => h.next hb⟩
theorem keeps_bt {n Bs g : Nat} {t : TypeId} {W W' : World} {bs : List Bool} (hi : BT W g bs) (hc : Chg g (g + 1) W W') (hn : n ≤ g) (hB : g < Bs) : KeepsOthers W W' ∧ KpB n Bs t W W' := by
  refine ⟨⟨hc.size, fun k o hk ho => ?_⟩, below_chg (Below.refl n W) hc (by have := hi.lt; omega) hn, fun v h => bx_chg h hc (.inr hB)⟩
  have hne : k ≠ g := by
    intro e
    subst e
    rw [show W.heap[k]? = some (.cells (boolCells bs) 143 (0, 0)) from hi] at hk
    injection hk with hk; subst hk; cases ho
  exact (hc.block k (Array.getElem?_eq_some_iff.1 hk).1 (by omega)).trans hk
theorem own_ne_bxi {w : World} {base size m b : Nat} {e t : TypeId} {v u : Value} {xs : List Value} (h : w.ownsRow base e size v m xs) (hb : BX w b t u) (hne : e ≠ t) : v.ownBlock ≠ some b := by
  intro hv
  rcases h.2 with ⟨rfl, _⟩ | ⟨g, cap, cur, rfl, _, hh, _⟩
  · simp [Value.ownBlock] at hv
  · have e1 : g = b := by simpa [Value.ownBlock] using hv
    subst e1
    unfold BX at hb
    rw [hh] at hb
    injection hb with hb
    injection hb with _ h9
    exact hne h9
theorem keeps_pushI {n Bs q base m : Nat} {W W' : World} {V v' : Value} {xs : List Value} (ho : W.ownsRow base 56 5 V m xs) (hg : W.grownBy W' V.ownBlock) (hb : n ≤ base) (hs : n ≤ W.heap.size) (hq : n ≤ q) (hqB : q ≠ Bs) : KeepsOthers W (W'.setCell ⟨q, 0, none⟩ v') ∧ KpB n Bs 42 W (W'.setCell ⟨q, 0, none⟩ v') := by
  have hrow : ∀ (j : Nat) (o : Obj), V.ownBlock = some j → W.heap[j]? = some o → o.isCells = true := by
    intro j o hj hh
    rcases ho.2 with ⟨rfl, _⟩ | ⟨g, cap, cur, rfl, _, hgg, _⟩
    · simp [Value.ownBlock] at hj
    · have e1 : g = j := by simpa [Value.ownBlock] using hj
      subst e1
      rw [hgg] at hh; injection hh with hh; subst hh; rfl
  refine ⟨(KeepsOthers.of_grownBy hg hrow).trans (KeepsOthers.setCell _ _ _), ?_, fun v h => (h.kept hg (own_ne_bxi ho h (by decide))).other 0 v' hqB⟩
  exact ((Below.refl n W).grown hg hs (fun k e => Nat.le_trans hb (ho.lt k e).1)).setCell (p := ⟨q, 0, none⟩) hq v'
theorem XB.newI (w : World) (x : In) : XB (w.alloc (.cells #[.string x.op, .int .i64 x.d, .int .i64 x.a, .int .i64 x.b, .int .i64 x.m] 56)) w.heap.size x := heap_alloc_new w _
theorem five_ofs {w : World} {g : Nat} {x : In} (hg : w.heap.size = g) : ∀ (j : Nat) (u : Value), (In.enc x)[j]? = some u → (w.alloc (.cells #[.string x.op, .int .i64 x.d, .int .i64 x.a, .int .i64 x.b, .int .i64 x.m] 56)).cell? ((⟨g, 0, none⟩ : Addr).add j) = some u := by
  intro j u hj
  subst hg
  rw [addr_add]
  have h : CB 56 (w.alloc (.cells #[.string x.op, .int .i64 x.d, .int .i64 x.a, .int .i64 x.b, .int .i64 x.m] 56)) w.heap.size (In.enc x) := heap_alloc_new w _
  rw [h.cell j]; exact hj

set_option maxHeartbeats 4000000 in
theorem iDropDead_go (L B L' B' : Nat) (A A' : Option Addr) (c c' : Nat) (cs : List In) (out : List Int) (w : World) (hk : okCode cs = true) (hr : riseB out = true) (hn : out.length ≤ 1048576) (hes : RS In.enc 5 w L B A cs) (hB : B ≤ w.heap.size) (hns : IS w L' B' A' out) (hB' : B' ≤ w.heap.size) :
    Calls Try.prog 61 #[.slice A cs.length c, .slice A' out.length c'] w (ResDropDead (ddR cs out) (ddOk cs out) w) := by
  have hl40 := okCode_len hk
  have hl : cs.length ≤ 1048576 := by omega
  have H := Lib.hid (IsCode_any L B A c cs w hl hes hB)
  have H2 := Lib.hid fun (W : World) (hW : Below w.heap.size w W) => areRegisters_any L' B' A' c' out W hn (hns.below hW hB')
  have H3 := Lib.hid fun (W : World) (hW : Below w.heap.size w W) => registerSetOf_any L' B' A' c' out W hn (hns.below hW hB') (Nat.le_trans hB' hW.size) (rise_bits hr).1
  have hE := Lib.hid fun (W : World) (hW : Below w.heap.size w W) => hes.below hW hB
  have hBB := Lib.hid hB
  have hR := Lib.hid (show ddR cs out = (ddS (setsTo out out.length) cs).1 by unfold ddR ddOk; rw [hk, hr]; rfl)
  have hO := Lib.hid (show ddOk cs out = true by unfold ddOk; rw [hk, hr]; rfl)
  have hall := Lib.hid (okCode_all hk)
  have hl6 := setsTo_len out out.length
  rw [hk] at H
  rw [hr] at H2
  clear hk hr hes hB hns hB'
  generalize setsTo out out.length = bs at *
  have hL6 := Lib.hid hl6
  obtain ⟨b0, b1, b2, b3, b4, b5, hbs⟩ := six_bools hl6
  have hBS := Lib.hid hbs
  rw [hbs] at H3
  clear hbs hl6
  simp only [boolCells, List.map_cons, List.map_nil] at H3
  obtain ⟨i0, hi', hz0, hz1, hz2⟩ := info_parts Try.infoInstr
  have hJ0 := Lib.hid hi'
  have hJ1 := Lib.hid hz0
  have hJ2 := Lib.hid hz1
  have hJ3 := Lib.hid hz2
  clear hi' hz0 hz1 hz2
  refine (callsIn_wide (n := 6)).1 ?_
  refine callsIn_of_wp_marks Try.func61 rfl trivial ?_ rfl
  simp only [Try.ntmps61, List.size_toArray, List.length_cons, List.length_nil, Nat.reduceAdd, Nat.reduceSub, Array.replicate_succ, Array.replicate_zero, List.push_toArray, List.append_toArray, List.nil_append, List.cons_append]
  gi_wp2
  refine ⟨trivial, callsIn_wide.2 (H.out.mono ?_)⟩
  rintro e W1 ⟨rfl, hb1⟩
  have B1 := Lib.hid hb1
  clear hb1
  gi_wp2
  refine ⟨trivial, callsIn_wide.2 ((H2.out W1 B1.out).mono ?_)⟩
  rintro e W1' ⟨rfl, rfl⟩
  gi_wp2
  refine ⟨trivial, callsIn_wide.2 ((H3.out W1 B1.out).mono ?_)⟩
  rintro e W2 ⟨rfl, hb2⟩
  have B2 := Lib.hid (B1.out.trans (hb2.mono B1.out.size))
  clear hb2 B1 H H2 H3
  gi_wp2
  obtain ⟨W4, hW4⟩ : ∃ W4, W4 = (W2.alloc (.cells #[.bool b0, .bool b1, .bool b2, .bool b3, .bool b4, .bool b5] 143)).alloc (.cells #[.slice none 0 0] 42) := ⟨_, rfl⟩
  have z1 := World.size_alloc W2 (.cells #[.bool b0, .bool b1, .bool b2, .bool b3, .bool b4, .bool b5] 143)
  have z4 : W4.heap.size = W2.heap.size + 1 + 1 := by rw [hW4, World.size_alloc, z1]
  have k6 : BT W4 W2.heap.size bs := by
    rw [hW4, hBS.out]
    have h : BT (W2.alloc (.cells #[.bool b0, .bool b1, .bool b2, .bool b3, .bool b4, .bool b5] 143)) W2.heap.size [b0, b1, b2, b3, b4, b5] := heap_alloc_new W2 _
    exact h.next ((Below.refl _ _).alloc (Nat.le_refl _) _) h.lt
  have k7 : BX W4 (W2.heap.size + 1) 42 (.slice none 0 0) := by
    rw [hW4]; have h := BX.new (W2.alloc (.cells #[.bool b0, .bool b1, .bool b2, .bool b3, .bool b4, .bool b5] 143)) 42 (.slice none 0 0)
    rw [z1] at h; exact h
  have B4 : Below w.heap.size w W4 := by rw [hW4]; exact (B2.out.alloc B2.out.size _).alloc (by rw [z1]; exact Nat.le_succ_of_le B2.out.size) _
  rw [← hW4]
  have hz2 := B2.out.size
  obtain ⟨p6, hp6⟩ : ∃ p6, p6 = W2.heap.size := ⟨_, rfl⟩
  rw [← hp6] at k6 k7 z4 hz2 ⊢
  have K6 := Lib.hid k6
  have K7 := Lib.hid k7
  have Z4 := Lib.hid z4
  have B4h := Lib.hid B4
  have Hp := Lib.hid hz2
  clear hp6 hW4 z1 z4 k6 k7 B4 B2 hz2 hBS
  refine ⟨trivial, (bwI_in Fence.wide 5 trivial rfl A cs.length c W4).mono ?_⟩
  rintro e W9 ⟨rfl, rfl⟩
  have a9 := (Below.refl W4.heap.size W4).alloc (Nat.le_refl _) (.cells #[.slice A cs.length c] 42)
  have T6 := Lib.hid (K6.out.next a9 K6.out.lt)
  have T7 := Lib.hid (K7.out.next a9)
  have B9 := Lib.hid (B4h.out.trans (a9.mono B4h.out.size))
  have TB9 := Lib.hid (BX.new W4 42 (.slice A cs.length c))
  have hes9 := Lib.hid (hE.out _ B9.out)
  have Z9 := World.size_alloc W4 (.cells #[.slice A cs.length c] 42)
  obtain ⟨Bs, hBs⟩ : ∃ Bs, Bs = W4.heap.size := ⟨_, rfl⟩
  obtain ⟨W9, hW9⟩ : ∃ W9, W9 = W4.alloc (.cells #[.slice A cs.length c] 42) := ⟨_, rfl⟩
  rw [← hBs, ← hW9]
  rw [← hW9] at T6 T7 B9 hes9 TB9 Z9
  rw [← hBs] at TB9 Z9
  have Zb := Lib.hid (show p6 + 1 < Bs by have := Z4.out; omega)
  have Z9h := Lib.hid Z9
  clear a9 K6 K7 B4h hW9 hBs Z4 Z9 hE
  gi_wp2
  refine wpIn_rangeFunc_ownH rfl (by omega) (gf := 244) (lb := #[.pointer (some ⟨Bs, 0, none⟩)]) rfl trivial (enters_of Try.func244 (by kernel_rfl) rfl)
    (bwI_stops Fence.wide 5 trivial rfl (by omega) Bs w.heap.size L B A c cs hl W9 B9.out.size TB9.out hes9.out hBB.out) KpB.t (KpB.b B9.out.size) (Below.refl _ _) (fun _ => rfl)
    (fun pre W => ∃ V, DD w W p6 (p6 + 1) Bs (ddP bs pre).2 V (ddP bs pre).1)
    (fun _ _ _ => False) ?hI ?hIx ?h0
    (fun x a' W => ∃ Bx, Bs < Bx ∧ XB W Bx x.1.2 ∧ a' = { tmps := #[.slice A cs.length c, .slice A' out.length c', undef, undef, .slice none 0 0, .bool false, .pointer (some ⟨p6, 0, none⟩), .pointer (some ⟨p6 + 1, 0, none⟩), undef, .pointer (some ⟨Bx, 0, none⟩), .slice A cs.length c, .bool true, .bool false, .bool false, .slice A' out.length c', .bool true, .bool false, .bool false, .slice A' out.length c', .agg #[.bool b0, .bool b1, .bool b2, .bool b3, .bool b4, .bool b5], .slice A cs.length c, .func (.func 244) #[] #[.pointer (some ⟨Bs, 0, none⟩)], .int .i64 (x.1.1 : Int), inV x.1.2, undef, undef, undef, undef, undef, undef, undef, undef, undef, undef, undef, undef, undef], defers := [] })
    ?hAx ?assign ?body ?done ?stop
  case hAx =>
    rintro x a' _ X YY row ⟨Bx, h1, h2, h3⟩ hg hr
    refine ⟨Bx, h1, ?_, h3⟩
    have hne : row ≠ some Bx := row_not (show X.heap[Bx]? = some (.cells (In.enc x.1.2).toArray 56 (0, 0)) from h2) (fun r e => (hr r e).2)
    exact (hg.block Bx (CB.lt h2) (fun e => hne e.symm)).trans h2
  case assign =>
    rintro l pre ⟨⟨k, ⟨op, d, a, b, m⟩⟩, hk, hy⟩ W K ⟨V, hD⟩ hK
    have hlt : Bs + 1 ≤ W.heap.size := hD.hB
    have ha := (Below.refl W.heap.size W).alloc (Nat.le_refl _) (.cells #[.string op, .int .i64 d, .int .i64 a, .int .i64 b, .int .i64 m] 56)
    have h1 := hK { tmps := #[.slice A cs.length c, .slice A' out.length c', undef, undef, .slice none 0 0, .bool false, .pointer (some ⟨p6, 0, none⟩), .pointer (some ⟨p6 + 1, 0, none⟩), undef, .pointer (some ⟨W.heap.size, 0, none⟩), .slice A cs.length c, .bool true, .bool false, .bool false, .slice A' out.length c', .bool true, .bool false, .bool false, .slice A' out.length c', .agg #[.bool b0, .bool b1, .bool b2, .bool b3, .bool b4, .bool b5], .slice A cs.length c, .func (.func 244) #[] #[.pointer (some ⟨Bs, 0, none⟩)], .int .i64 (k : Int), inV ⟨op, d, a, b, m⟩, undef, undef, undef, undef, undef, undef, undef, undef, undef, undef, undef, undef, undef], defers := [] } (W.alloc (.cells #[.string op, .int .i64 d, .int .i64 a, .int .i64 b, .int .i64 m] 56)) ((KeepsOthers.alloc _ _).from _) (keeps_belowI ha hD.be.size).2 ⟨V, hD.below ha⟩ ⟨W.heap.size, hlt, XB.newI W ⟨op, d, a, b, m⟩, rfl⟩
    dsimp only [inV] at h1
    have h1h := Lib.hid h1
    clear h1 hK hD
    dsimp only [inV]
    gi_wp2
    exact h1h.out
  case hI =>
    rintro pre W W' row ⟨V, hD⟩ hg hr
    exact ⟨V, hD.kept hg (fun r e => ⟨Nat.le_trans B9.out.size (hr r e).1, (hr r e).2⟩)⟩
  case hIx => rintro cd pre W W' row hF; exact hF.elim
  case h0 => exact ⟨.slice none 0 0, Hp.out, Nat.lt_succ_self _, Zb.out, T6.out, T7.out, OK.nil _ _ _ _, B9.out, by rw [Z9h.out]; exact Nat.le_refl _⟩
  case stop =>
    rintro D cd pre W _ _ hh _
    exact hh.elim
  case body =>
    rintro l pre x a' W hl0 _ ⟨V, hD⟩ ⟨Bx, hBx, hX, rfl⟩ hpl
    obtain ⟨⟨k, y⟩, hk, hy⟩ := x
    have hk' : k < cs.length := hk
    have hgd := Lib.hid (show goodIn y = true from hall.out y (List.mem_of_getElem? hy))
    have hsn := Lib.hid (ddP_snoc bs pre ⟨(k, y), hk, hy⟩)
    have hln := ddP_len bs hL6.out pre
    have hln1 := Lib.hid hln.1
    have hln2 := Lib.hid hln.2
    clear hln
    generalize hP' : ddP bs (pre ++ [⟨(k, y), hk, hy⟩]) = P' at *
    have HP := Lib.hid hP'
    clear hP'
    generalize ddP bs pre = P at *
    obtain ⟨kept, bb⟩ := P
    dsimp only at *
    obtain ⟨VA, vc, rfl, hrs⟩ := hD.ok.form In.hk
    obtain ⟨op, d, a, b, m⟩ := y
    have hgp := (good_parts hgd.out).1
    dsimp only [inV] at *
    obtain ⟨dn, rfl⟩ := Int.eq_ofNat_of_zero_le hgp.1
    have hdn6 : (dn : Int) < 6 := by omega
    have hdn : dn < 6 := by omega
    have hdn0 : (0 : Int) ≤ (dn : Int) := by omega
    have c6 := hD.b6.cell dn (by rw [hln2.out]; exact hdn)
    obtain ⟨n0, n1, n2, n3, n4⟩ := XB.cells hX
    dsimp only at n0 n1 n2 n3 n4
    have D1 := Lib.hid hD
    have XX := Lib.hid hX
    clear hD hX hgp hrs
    have hF : Hid (P' = ddF (kept, bb) ⟨op, (dn : Int), a, b, m⟩) := hsn.out
    clear hsn
    by_cases hbit : bb.getD dn false = true
    · have hF2 : Hid (P' = (kept ++ [⟨op, (dn : Int), a, b, m⟩], bkB bb ⟨op, (dn : Int), a, b, m⟩)) := by rw [Hid, hF.out]; unfold ddF; dsimp only; rw [Int.toNat_natCast, if_pos hbit]
      rw [hbit] at c6
      have hGB := Lib.hid (goBack_any p6 bb ⟨op, (dn : Int), a, b, m⟩ W hln2.out hgd.out D1.out.b6)
      clear hF hbit
      gi_wp2
      refine ⟨trivial, (CallsIn.inRound l (callsIn_wide.2 hGB.out)).mono ?_⟩
      rintro e W2' ⟨rfl, hbt, hch⟩
      have hkp2 := Lib.hid (keeps_bt (n := w.heap.size) (Bs := Bs) (t := 42) D1.out.b6 hch Hp.out (by have := Zb.out; omega))
      have hD2 := D1.out.lay hch hbt
      have X2 : XB W2' Bx ⟨op, (dn : Int), a, b, m⟩ := (hch.block _ (CB.lt XX.out) (.inr (by have := Zb.out; omega))).trans XX.out
      have D2 := Lib.hid hD2
      have c7 := hD2.b7.cell
      clear n0 n1 n2 n3 n4 c6 hGB hbt hch hD2
      obtain ⟨n0, n1, n2, n3, n4⟩ := XB.cells X2
      dsimp only at n0 n1 n2 n3 n4
      have A3 := (Below.refl W2'.heap.size W2').alloc (Nat.le_refl _) (.cells #[.string op, .int .i64 (dn : Int), .int .i64 a, .int .i64 b, .int .i64 m] 56)
      have D3 := Lib.hid (D2.out.below A3)
      have hkp3 := Lib.hid (keeps_belowI (n := w.heap.size) (Bs := Bs) (t := 42) A3 D2.out.be.size)
      have hlk : kept.length ≤ 40 := by have := hln1.out; omega
      have zB : Bs + 1 ≤ W2'.heap.size := D2.out.hB
      have zB3 := Lib.hid D3.out.hB
      have hO3 := Lib.hid D3.out.ok.1
      have hb7 := Lib.hid D3.out.b7
      clear X2 A3
      gi_wp2_with (gi_at_builtin; go_loud (refine wpListIn_append_own _ rfl _ _ 42 rfl (Bs + 1) 56 i0 _ 5 48 Try.underlying42 hJ0.out hJ1.out hJ2.out hJ3.out rfl (by decide) (.slice VA kept.length vc) kept.length _ rfl hO3.out ⟨W2'.heap.size, 0, none⟩ 1 1 (In.enc ⟨op, (dn : Int), a, b, m⟩) rfl rfl (five_ofs (x := ⟨op, (dn : Int), a, b, m⟩) rfl) (five_one ⟨op, (dn : Int), a, b, m⟩) (by unfold maxLen; omega) (by omega) (by simp; omega) ?_); intro v' w5 hown hgr _; have b75 := hb7.out.kept hgr (own_ne_bxi hO3.out hb7.out (by decide)); have u75 := b75.cell; have f75 := b75.fz; obtain ⟨ga, ca, rfl⟩ := ownsRow_succ hown)
      have hFin := D3.out.push hown hgr
      have hk6 := keeps_pushI (n := w.heap.size) (Bs := Bs) (q := p6 + 1) (v' := .slice (some ⟨ga, 0, none⟩) (kept.length + 1) ca) hO3.out hgr (by have := Hp.out; have := Zb.out; omega) D3.out.be.size (by have := Hp.out; omega) (by have := Zb.out; omega)
      refine ⟨(((hkp2.out.1).trans hkp3.out.1).trans hk6.1).from _, (hkp2.out.2.t hkp3.out.2).t hk6.2, ⟨.slice (some ⟨ga, 0, none⟩) (kept.length + 1) ca, ?_⟩⟩
      rw [HP.out, hF2.out]
      exact hFin
    · have hF2 : Hid (P' = (kept, bb)) := by rw [Hid, hF.out]; unfold ddF; dsimp only; rw [Int.toNat_natCast, if_neg hbit]
      rw [Bool.eq_false_iff.2 hbit] at c6
      clear hF hbit
      gi_wp2
      refine ⟨(KeepsOthers.refl _).from _, ⟨Below.refl _ _, fun _ h => h⟩, ⟨.slice VA kept.length vc, ?_⟩⟩
      rw [HP.out, hF2.out]
      exact D1.out
  case done =>
    rintro D ys W hD rfl ⟨V, hDD⟩ hK
    rw [ddP_all] at hDD
    dsimp only at hDD
    have hDw : w.heap.size ≤ D := Nat.le_trans B9.out.size hD
    have gr0 := fun (W : World) => grownBy_putObj' W D (.deferred none)
    have hlen0 := (ddS_len bs cs).1
    have hDh := Lib.hid hDD
    have hKh := Lib.hid hK
    have hll : Hid ((ddS bs cs).1.reverse.length = (ddS bs cs).1.length) := List.length_reverse
    have hrr : Hid ((ddS bs cs).1.reverse.reverse = (ddS bs cs).1) := List.reverse_reverse _
    clear hDD hK
    rw [hR.out, hO.out]
    generalize (ddS bs cs).1 = Z at *
    generalize Z.reverse = ZR at *
    have c7 := hDh.out.b7.cell
    rcases OK.open hDh.out.ok with ⟨rfl, h0⟩ | ⟨g, cap, rfl, hgl, hgh, hlc, hcm, rest, hcb, hcl⟩
    · have hZ0 : Hid (Z = []) := List.eq_nil_of_length_eq_zero (by rw [← hll.out]; exact h0)
      have hNil := fun (W : World) => Lib.hid (revI_nil 0 W)
      clear h0
      gi_wp2
      refine ⟨trivial, callsIn_wide.2 ((hNil _).out.mono ?_)⟩
      rintro e W' ⟨rfl, rfl⟩
      gi_wp2
      have rD : ∀ r, some D = some r → ∃ o : Obj, W'.heap[r]? = some o ∧ o.isCells = false := fun r e => by cases e; exact ⟨_, hKh.out, rfl⟩
      refine ⟨by simp, .inl ⟨_, _, rfl, run_takeDeferred hKh.out, ?_⟩⟩
      refine ⟨_, results_tmp2 rfl _ _ _, none, 0, by rw [hR.out, hO.out, hZ0.out]; rfl, by rw [hR.out, hZ0.out]; exact OK.nil _ _ _ _, hDh.out.be.grown (gr0 W') hDh.out.be.size (fun k e => by cases e; exact hDw)⟩
    · have hcbh := Lib.hid hcb
      have hRev := Lib.hid (revI_any g cap ZR rest W (by rw [hll.out]; omega) hcb)
      have hgl' := Lib.hid hgl
      have hlc' := Lib.hid hlc
      have hcm' := Lib.hid hcm
      have hcl' := Lib.hid hcl
      clear hgl hgh hlc hcm hcb hcl
      gi_wp2
      refine ⟨trivial, callsIn_wide.2 (hRev.out.mono ?_)⟩
      rintro e W' ⟨rfl, hcb, hch⟩
      have b7 := bx_chg hDh.out.b7 hch (.inl (by have := hgl'.out; have := Zb.out; omega))
      have u7 := b7.cell
      rw [hrr.out] at hcb
      have hlen : ZR.length = Z.length := hll.out
      have hOKf : OK In.enc 5 56 W' w.heap.size W'.heap.size (.slice (some ⟨g, 0, none⟩) Z.length cap) Z :=
        OK.close In.hk hcb (by have := hgl'.out; have := Zb.out; have := Hp.out; omega) (CB.lt hcb) (by rw [← hlen]; exact hlc'.out) hcm'.out (by
          have h := hcl'.out
          rw [List.length_append, kflat_len In.hk] at h ⊢
          rw [← hlen]; exact h)
      have hbe := below_chg hDh.out.be hch hDh.out.be.size (by have := hgl'.out; have := Zb.out; have := Hp.out; omega)
      have hgD : D ≠ g := by
        intro e
        have h1 := hKh.out
        rw [e, show W.heap[g]? = some (.cells (ZR.flatMap In.enc ++ rest).toArray 56 (0, 0)) from hcbh.out] at h1
        injection h1 with h1
        cases h1
      have hK2 : W'.heap[D]? = some (.deferred (some [])) := (hch.block D (Array.getElem?_eq_some_iff.1 hKh.out).1 (by omega)).trans hKh.out
      have hOh := Lib.hid hOKf
      have hBe := Lib.hid hbe
      have hK2h := Lib.hid hK2
      have hLen := Lib.hid hlen
      clear hOKf hbe hK2 hch hcb b7 c7 hlen
      rw [← hLen.out] at hOh
      gi_wp2
      have rD : ∀ r, some D = some r → ∃ o : Obj, W'.heap[r]? = some o ∧ o.isCells = false := fun r e => by cases e; exact ⟨_, hK2h.out, rfl⟩
      refine ⟨by simp, .inl ⟨_, _, rfl, run_takeDeferred hK2h.out, ?_⟩⟩
      have hO2 : OK In.enc 5 56 (W'.putObj D (.deferred none)) w.heap.size (W'.putObj D (.deferred none)).heap.size (.slice (some ⟨g, 0, none⟩) ZR.length cap) Z := OK.more ⟨hOh.out.1.kept (gr0 W') (oki_not hOh.out rD), hOh.out.2⟩ (gr0 W').size
      refine ⟨_, results_tmp2 rfl _ _ _, some ⟨g, 0, none⟩, cap, by rw [hR.out, hO.out, ← hLen.out]; rfl, by rw [hR.out, ← hLen.out]; exact hO2, hBe.out.grown (gr0 W') hBe.out.size (fun k e => by cases e; exact hDw)⟩
end Go.Proofs.Ytmhdijklindipaa
