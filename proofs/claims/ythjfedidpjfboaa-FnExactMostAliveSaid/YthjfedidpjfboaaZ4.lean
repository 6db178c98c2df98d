/- Texts of this proof, one behind the other: BR, BS, CZ3, RP, DA, SA. -/
import Derived.Test.YthjfedidpjfboaaZ5
import Derived.Test.YthjfedidpjfboaaV2
import Derived.Test.YthjfedidpjfboaaV3
import Derived.WalkKit
import Derived.Lib.Hide
import Derived.WalkSpells
import Derived.WalkLawsBesides
import Derived.Deep.RegionHeld3
import Derived.Deep.RegionLaw
import Derived.Deep.AppendLies
import Derived.Test.YthjfedidpjfboaaZ7
import Derived.Test.YthjfedidpjfboaaZ6
import Derived.Test.YthjfedidpjfboaaLawC
/- Slices of slices of ints of the call's own: made, laid ahead, laid behind, stored into. -/
namespace Go.Proofs.Ythjfedidpjfboaa
open Go.RowKit
set_option linter.unusedVariables false

theorem Try.infoII : (Try.prog.info? 32).map (fun i => (i.zero, i.size, i.bytes)) = some (some (.slice none 0 0), 1, 24) := by kernel_rfl
theorem rowNeX {w : World} {L1 L2 k1 k2 n1 n2 : Nat} {t1 t2 : TypeId} {v1 v2 : Value} {x1 x2 : List Value} (h1 : w.ownsRow L1 t1 k1 v1 n1 x1) (h2 : w.ownsRow L2 t2 k2 v2 n2 x2) (ht : t1 ≠ t2) : ∀ j, v1.ownBlock = some j → v2.ownBlock ≠ some j := by
  intro j e1 e2
  rcases h1.2 with ⟨rfl, _⟩ | ⟨g, cap, cur, rfl, _, hh, _⟩
  · simp [Value.ownBlock] at e1
  · rcases h2.2 with ⟨rfl, _⟩ | ⟨g', cap', cur', rfl, _, hh', _⟩
    · simp [Value.ownBlock] at e2
    · have a1 : g = j := by simpa [Value.ownBlock] using e1
      have a2 : g' = j := by simpa [Value.ownBlock] using e2
      subst a1; subst a2
      rw [hh] at hh'; injection hh' with hh'; injection hh' with _ h9
      exact ht h9
/-- The rows: each of the call's own, no two in one block. -/
structure RowsX (w : World) (lo hi : Nat) (vs : List Value) (xss : List (List Int)) : Prop where
  len : vs.length = xss.length
  row : ∀ i (h : i < vs.length) (h' : i < xss.length), (∃ Ai ci, vs[i] = .slice Ai (xss[i]).length ci) ∧ OW w lo hi vs[i] xss[i]
  apart : ∀ i j (h : i < vs.length) (h' : j < vs.length), i ≠ j → ∀ b, vs[i].ownBlock = some b → vs[j].ownBlock ≠ some b
theorem OX.of {w : World} {lo hi : Nat} {v : Value} {vs : List Value} {xss : List (List Int)} (hO : OK encV 1 32 w lo hi v vs) (h : RowsX w lo hi vs xss) : OX w lo hi v xss :=
  ⟨vs, h.len, hO, h.row, h.apart, fun b hb i hi' => rowNeX hO.1 (h.row i hi' (by rw [← h.len]; exact hi')).2.1 (by decide) b hb⟩
theorem OX.parts {w : World} {lo hi : Nat} {v : Value} {xss : List (List Int)} (h : OX w lo hi v xss) : ∃ vs, OK encV 1 32 w lo hi v vs ∧ RowsX w lo hi vs xss := by
  obtain ⟨vs, hl, hO, hr, hd, _⟩ := h
  exact ⟨vs, hO, hl, hr, hd⟩
theorem RowsX.mk1 {w : World} {lo hi : Nat} {v0 : Value} {xs : List Int} (h : OW w lo hi v0 xs) : RowsX w lo hi [v0] [xs] := by
  refine ⟨rfl, fun i h1 h2 => ?_, fun i j h1 h2 hne => ?_⟩
  · obtain rfl : i = 0 := by simpa using h1
    obtain ⟨A, c, e, _⟩ := h.form
    exact ⟨⟨A, c, e⟩, h⟩
  · simp at h1 h2; omega
theorem OW.fresh {w : World} {lo hi b : Nat} {v : Value} {xs : List Int} (h : OW w lo hi v xs) (e : v.ownBlock = some b) : lo ≤ b ∧ b < hi := h.lo b e
theorem RowsX.cons {w : World} {lo hi hi0 : Nat} {v0 : Value} {xs : List Int} {vs : List Value} {xss : List (List Int)} (h : RowsX w lo hi vs xss) (h0 : OW w hi hi0 v0 xs) (hle : hi ≤ hi0) (hlo : lo ≤ hi) : RowsX w lo hi0 (v0 :: vs) (xs :: xss) := by
  refine ⟨by simp [h.len], fun i h1 h2 => ?_, fun i j h1 h2 hne b hb => ?_⟩
  · cases i with
    | zero =>
      obtain ⟨A, c, e, _⟩ := h0.form
      exact ⟨⟨A, c, e⟩, h0.lower hlo⟩
    | succ i =>
      have hr := h.row i (by simpa using h1) (by simpa using h2)
      exact ⟨hr.1, hr.2.more hle⟩
  · cases i with
    | zero =>
      cases j with
      | zero => omega
      | succ j =>
        intro e
        have h3 : j < vs.length := by simpa using h2
        have := (h.row j h3 (by rw [← h.len]; exact h3)).2.fresh (by simpa using e)
        have := h0.fresh (by simpa using hb)
        omega
    | succ i =>
      have h3 : i < vs.length := by simpa using h1
      cases j with
      | zero =>
        intro e
        have := (h.row i h3 (by rw [← h.len]; exact h3)).2.fresh (by simpa using hb)
        have := h0.fresh (by simpa using e)
        omega
      | succ j => exact h.apart i j h3 (by simpa using h2) (by omega) b (by simpa using hb)
theorem RowsX.set {w : World} {lo hi hi0 : Nat} {v0 : Value} {xs : List Int} {vs : List Value} {xss : List (List Int)} (h : RowsX w lo hi vs xss) (k : Nat) (h0 : OW w hi hi0 v0 xs) (hle : hi ≤ hi0) (hlo : lo ≤ hi) : RowsX w lo hi0 (vs.set k v0) (xss.set k xs) := by
  refine ⟨by simp [h.len], fun i h1 h2 => ?_, fun i j h1 h2 hne b hb => ?_⟩
  · rw [List.length_set] at h1 h2
    rw [List.getElem_set, List.getElem_set]
    by_cases e : k = i
    · rw [if_pos e, if_pos e]
      obtain ⟨A, c, e2, _⟩ := h0.form
      exact ⟨⟨A, c, e2⟩, h0.lower hlo⟩
    · rw [if_neg e, if_neg e]
      have hr := h.row i h1 h2
      exact ⟨hr.1, hr.2.more hle⟩
  · rw [List.length_set] at h1 h2
    rw [List.getElem_set] at hb ⊢
    by_cases e1 : k = i
    · rw [if_pos e1] at hb
      rw [if_neg (by omega)]
      intro e
      have := (h.row j h2 (by rw [← h.len]; exact h2)).2.fresh e
      have := h0.fresh hb
      omega
    · rw [if_neg e1] at hb
      by_cases e2 : k = j
      · rw [if_pos e2]
        intro e
        have := (h.row i h1 (by rw [← h.len]; exact h1)).2.fresh hb
        have := h0.fresh e
        omega
      · rw [if_neg e2]; exact h.apart i j h1 h2 hne b hb
theorem RowsX.snoc {w : World} {lo hi hi0 : Nat} {v0 : Value} {xs : List Int} {vs : List Value} {xss : List (List Int)} (h : RowsX w lo hi vs xss) (h0 : OW w hi hi0 v0 xs) (hle : hi ≤ hi0) (hlo : lo ≤ hi) : RowsX w lo hi0 (vs ++ [v0]) (xss ++ [xs]) := by
  have hl := h.len
  refine ⟨by simp [h.len], fun i h1 h2 => ?_, fun i j h1 h2 hne b hb => ?_⟩
  · by_cases e : i < vs.length
    · rw [List.getElem_append_left e, List.getElem_append_left (by omega)]
      have hr := h.row i e (by omega)
      exact ⟨hr.1, hr.2.more hle⟩
    · have e2 : i = vs.length := by simp at h1; omega
      subst e2
      rw [List.getElem_append_right (Nat.le_refl _), List.getElem_append_right (by omega)]
      obtain ⟨A, c, e2, _⟩ := h0.form
      simp only [hl, Nat.sub_self, List.getElem_cons_zero]
      exact ⟨⟨A, c, e2⟩, h0.lower hlo⟩
  · by_cases e1 : i < vs.length
    · rw [List.getElem_append_left e1] at hb
      by_cases e2 : j < vs.length
      · rw [List.getElem_append_left e2]; exact h.apart i j e1 e2 hne b hb
      · have e3 : j = vs.length := by simp at h2; omega
        subst e3
        rw [List.getElem_append_right (Nat.le_refl _)]
        simp only [Nat.sub_self, List.getElem_cons_zero]
        intro e
        have := (h.row i e1 (by omega)).2.fresh hb
        have := h0.fresh e
        omega
    · have e3 : i = vs.length := by simp at h1; omega
      subst e3
      rw [List.getElem_append_right (Nat.le_refl _)] at hb
      simp only [Nat.sub_self, List.getElem_cons_zero] at hb
      have e2 : j < vs.length := by simp at h2; omega
      rw [List.getElem_append_left e2]
      intro e
      have := (h.row j e2 (by omega)).2.fresh e
      have := h0.fresh hb
      omega
theorem RowsX.more {w : World} {lo hi hi' : Nat} {vs : List Value} {xss : List (List Int)} (h : RowsX w lo hi vs xss) (hh : hi ≤ hi') : RowsX w lo hi' vs xss :=
  ⟨h.len, fun i h1 h2 => ⟨(h.row i h1 h2).1, (h.row i h1 h2).2.more hh⟩, h.apart⟩
theorem RowsX.chg {w w' : World} {L B lo hi : Nat} {vs : List Value} {xss : List (List Int)} (h : RowsX w L B vs xss) (hc : Chg lo hi w w') (hd : B ≤ lo ∨ hi ≤ L) : RowsX w' L B vs xss :=
  ⟨h.len, fun i h1 h2 => ⟨(h.row i h1 h2).1, (h.row i h1 h2).2.chg hc hd⟩, h.apart⟩
/-- A slice of another type grows. -/
theorem RowsX.grown {w w' : World} {lo hi L n : Nat} {u : Value} {xs : List Value} {vs : List Value} {xss : List (List Int)} (h : RowsX w lo hi vs xss) (hu : w.ownsRow L 32 1 u n xs) (hg : w.grownBy w' u.ownBlock) : RowsX w' lo hi vs xss :=
  ⟨h.len, fun i h1 h2 => ⟨(h.row i h1 h2).1, (h.row i h1 h2).2.turned hg (fun b hb => rowNeX hu (h.row i h1 h2).2.1 (by decide) b hb)⟩, h.apart⟩
/-- A block of another type is stored into. -/
theorem RowsX.stored {w : World} {lo hi g k : Nat} {t : TypeId} {cur : List Value} {u : Value} {vs : List Value} {xss : List (List Int)} (h : RowsX w lo hi vs xss) (hb : CB t w g cur) (ht : t ≠ 3) : RowsX (w.setCell ⟨g, k, none⟩ u) lo hi vs xss :=
  ⟨h.len, fun i h1 h2 => ⟨(h.row i h1 h2).1, by
    have hO := (h.row i h1 h2).2
    refine ⟨hO.1.kept (row := some g) ⟨rfl, rfl, rfl, Nat.le_of_eq (World.size_setCell _ _ _).symm, fun k _ hk => Below.heap_setCell _ _ _ k (fun e => hk (by rw [e]))⟩ ?_, hO.2⟩
    rcases hV : vs[i].ownBlock with _ | j
    · exact .inl rfl
    · refine .inr (fun e => ?_)
      injection e with e; subst e
      rcases hO.1.2 with ⟨h0, _⟩ | ⟨g', cap, cur', h0, _, hh, _⟩
      · rw [h0] at hV; simp [Value.ownBlock] at hV
      · rw [h0] at hV
        have e1 : g' = j := by simpa [Value.ownBlock] using hV
        subst e1
        unfold CB at hb
        rw [hb] at hh; injection hh with hh; injection hh with _ h9
        exact ht h9⟩, h.apart⟩
theorem flat_encV (vs : List Value) : vs.flatMap encV = vs := by induction vs with | nil => rfl | cons v vs ih => rw [List.flatMap_cons, ih]; rfl
theorem encV_one (v : Value) : (encV v).length = 1 := rfl
theorem okv_of {w : World} {lo n : Nat} {v : Value} {vs : List Value} (h : w.ownsRow lo 32 1 v n vs) (hn : n = vs.length) : OK encV 1 32 w lo w.heap.size v vs := by
  subst hn; exact ⟨by rw [flat_encV]; exact h, fun j hj => (h.lt j hj).2⟩
theorem okv_row {w : World} {lo hi : Nat} {v : Value} {vs : List Value} (h : OK encV 1 32 w lo hi v vs) : w.ownsRow lo 32 1 v vs.length vs := by
  have := h.1; rwa [flat_encV] at this
theorem rows_one {w : World} {lo hi : Nat} {vs : List Value} {xss : List (List Int)} (h : RowsX w lo hi vs xss) : ∀ u ∈ vs, u.oneCell' = true := by
  intro u hu
  obtain ⟨i, hi', e⟩ := List.mem_iff_getElem.1 hu
  obtain ⟨⟨A, c, e2⟩, _⟩ := h.row i hi' (by rw [← h.len]; exact hi')
  rw [← e, e2]; rfl
/-- One slice in a block. -/
theorem okv_one {w : World} {lo hi g : Nat} {v0 : Value} (h : CB 32 w g [v0]) (hlo : lo ≤ g) (hhi : g < hi) : OK encV 1 32 w lo hi (.slice (some ⟨g, 0, none⟩) 1 1) [v0] :=
  OK.close (enc := encV) (k := 1) (rest := []) encV_one (by simpa [encV] using h) hlo hhi (Nat.le_refl _) (by unfold maxLen; omega) rfl
theorem OX.below {w w' : World} {L B C : Nat} {v : Value} {xss : List (List Int)} (h : OX w L B v xss) (hb : Below C w w') (hC : B ≤ C) : OX w' L B v xss := by
  obtain ⟨vs, hO, hR⟩ := h.parts
  exact OX.of (hO.below hb hC) ⟨hR.len, fun i h1 h2 => ⟨(hR.row i h1 h2).1, (hR.row i h1 h2).2.below hb hC⟩, hR.apart⟩
theorem OX.form {w : World} {L B : Nat} {v : Value} {xss : List (List Int)} (h : OX w L B v xss) : ∃ A c, v = .slice A xss.length c := by
  obtain ⟨vs, hO, hR⟩ := h.parts
  obtain ⟨A, c, e, _⟩ := OK.form (enc := encV) (k := 1) encV_one hO
  exact ⟨A, c, by rw [e, hR.len]⟩
/-- 'append([][]int{v0}, rows...)'. -/
theorem consX {wr w3 : World} {lo b o n c5 : Nat} {v3 : Value} {xs : List Int} {xss : List (List Int)} (hX : OX wr lo wr.heap.size (.slice (some ⟨b, o, none⟩) n c5) xss) (hlo : lo ≤ wr.heap.size) (hw : Below wr.heap.size wr w3) (h3 : OW w3 wr.heap.size w3.heap.size v3 xs) (h0 : 0 < xss.length) :
    ∃ vs, vs.length = n ∧ (w3.alloc (.cells #[v3] 32)).ownsRow lo 32 1 (.slice (some ⟨w3.heap.size, 0, none⟩) 1 1) 1 [v3] ∧
      (∀ j u, vs[j]? = some u → (w3.alloc (.cells #[v3] 32)).cell? ((⟨b, o, none⟩ : Addr).add j) = some u) ∧ (∀ u ∈ vs, u.oneCell' = true) ∧
      (∀ g' cap w5, w5.ownsRow lo 32 1 (.slice (some ⟨g', 0, none⟩) (1 + n) cap) (1 + n) ([v3] ++ vs) → (w3.alloc (.cells #[v3] 32)).grownBy w5 (Value.slice (some ⟨w3.heap.size, 0, none⟩) 1 1).ownBlock →
        OX w5 lo w5.heap.size (.slice (some ⟨g', 0, none⟩) (1 + n) cap) (xs :: xss)) := by
  obtain ⟨vs, hO, hR⟩ := hX.parts
  have hvn : vs.length = n := by
    obtain ⟨A, c, e, _⟩ := OK.form (enc := encV) (k := 1) encV_one hO
    injection e with _ e2 _; exact e2.symm
  have A4 := (Below.refl w3.heap.size w3).alloc (Nat.le_refl _) (.cells #[v3] 32)
  have hcb : CB 32 (w3.alloc (.cells #[v3] 32)) w3.heap.size [v3] := heap_alloc_new w3 _
  have hz3 := hw.size
  have hz4 : (w3.alloc (.cells #[v3] 32)).heap.size = w3.heap.size + 1 := World.size_alloc _ _
  have hlit := okv_one (lo := lo) (hi := w3.heap.size + 1) hcb (by omega) (Nat.lt_succ_self _)
  have hO4 : OK encV 1 32 (w3.alloc (.cells #[v3] 32)) lo wr.heap.size (.slice (some ⟨b, o, none⟩) n c5) vs := (hO.below hw (Nat.le_refl _)).below A4 hz3
  have hR4 : RowsX (w3.alloc (.cells #[v3] 32)) lo wr.heap.size vs xss := ⟨hR.len, fun i h1 h2 => ⟨(hR.row i h1 h2).1, ((hR.row i h1 h2).2.below hw (Nat.le_refl _)).below A4 hz3⟩, hR.apart⟩
  have h34 : OW (w3.alloc (.cells #[v3] 32)) wr.heap.size w3.heap.size v3 xs := h3.below A4 (Nat.le_refl _)
  have hC := hR4.cons h34 hz3 hlo
  refine ⟨vs, hvn, okv_row hlit, fun j u hu => ?_, rows_one hR4, fun g' cap w5 hown hgr => ?_⟩
  · obtain ⟨a, e, h⟩ := (okv_rs hO4).news encV_one (by rw [hR.len]; exact h0)
    injection e with e; subst e
    exact h j u (by rw [flat_encV]; exact hu)
  · have hRf := (hC.more (Nat.le_succ_of_le (Nat.le_refl w3.heap.size))).grown (okv_row hlit) hgr
    have hsz := hgr.size
    exact OX.of (okv_of (by simpa using hown) (by simp [hvn]; omega)) (hRf.more (by omega))
/-- 'append(rows, v0)'. -/
theorem snocX {wr w3 : World} {lo n c5 : Nat} {A : Option Addr} {v3 : Value} {xs : List Int} {xss : List (List Int)} (hX : OX wr lo wr.heap.size (.slice A n c5) xss) (hlo : lo ≤ wr.heap.size) (hw : Below wr.heap.size wr w3) (h3 : OW w3 wr.heap.size w3.heap.size v3 xs) :
    ∃ vs, vs.length = n ∧ (w3.alloc (.cells #[v3] 32)).ownsRow lo 32 1 (.slice A n c5) n vs ∧
      (∀ j u, [v3][j]? = some u → (w3.alloc (.cells #[v3] 32)).cell? ((⟨w3.heap.size, 0, none⟩ : Addr).add j) = some u) ∧ (∀ u ∈ [v3], u.oneCell' = true) ∧
      (∀ g' cap w5, w5.ownsRow lo 32 1 (.slice (some ⟨g', 0, none⟩) (n + 1) cap) (n + 1) (vs ++ [v3]) → (w3.alloc (.cells #[v3] 32)).grownBy w5 (Value.slice A n c5).ownBlock →
        OX w5 lo w5.heap.size (.slice (some ⟨g', 0, none⟩) (n + 1) cap) (xss ++ [xs])) ∧
      (∀ b, (Value.slice A n c5).ownBlock = some b → lo ≤ b) := by
  obtain ⟨vs, hO, hR⟩ := hX.parts
  have hvn : vs.length = n := by
    obtain ⟨A, c, e, _⟩ := OK.form (enc := encV) (k := 1) encV_one hO
    injection e with _ e2 _; exact e2.symm
  have A4 := (Below.refl w3.heap.size w3).alloc (Nat.le_refl _) (.cells #[v3] 32)
  have hcb : CB 32 (w3.alloc (.cells #[v3] 32)) w3.heap.size [v3] := heap_alloc_new w3 _
  have hz3 := hw.size
  have hz4 : (w3.alloc (.cells #[v3] 32)).heap.size = w3.heap.size + 1 := World.size_alloc _ _
  have hO4 : OK encV 1 32 (w3.alloc (.cells #[v3] 32)) lo wr.heap.size (.slice A n c5) vs := (hO.below hw (Nat.le_refl _)).below A4 hz3
  have hR4 : RowsX (w3.alloc (.cells #[v3] 32)) lo wr.heap.size vs xss := ⟨hR.len, fun i h1 h2 => ⟨(hR.row i h1 h2).1, ((hR.row i h1 h2).2.below hw (Nat.le_refl _)).below A4 hz3⟩, hR.apart⟩
  have h34 : OW (w3.alloc (.cells #[v3] 32)) wr.heap.size w3.heap.size v3 xs := h3.below A4 (Nat.le_refl _)
  have hC := hR4.snoc h34 hz3 hlo
  obtain ⟨A3, c3, e3, _⟩ := h3.form
  refine ⟨vs, hvn, by have := okv_row hO4; rwa [hvn] at this, fun j u hu => ?_, fun u hu => by simp at hu; rw [hu, e3]; rfl, fun g' cap w5 hown hgr => ?_, fun b hb => (hO.lo b hb).1⟩
  · rw [addr_add, hcb.cell]; exact hu
  · have hRf := (hC.more (Nat.le_succ_of_le (Nat.le_refl w3.heap.size))).grown (okv_row hO4) hgr
    have hsz := hgr.size
    exact OX.of (okv_of hown (by simp [hvn])) (hRf.more (by omega))
end Go.Proofs.Ythjfedidpjfboaa

/- The sets of live registers: plain, and cdSets of the model. -/
namespace Go.Proofs.Ythjfedidpjfboaa
open Go.RowKit
set_option linter.unusedVariables false
set_option maxRecDepth 100000

def lvX (bs : List Bool) : List In → List (List Int)
  | [] => [mkT bs]
  | x :: cs => mkT (lvS bs (x :: cs)) :: lvX bs cs
theorem lvX_len (bs : List Bool) : ∀ cs : List In, (lvX bs cs).length = cs.length + 1
  | [] => rfl
  | x :: cs => by show (lvX bs cs).length + 1 = _; rw [lvX_len bs cs]; rfl
theorem lvX_head (bs : List Bool) : ∀ cs : List In, ∃ t, lvX bs cs = mkT (lvS bs cs) :: t
  | [] => ⟨[], rfl⟩
  | x :: cs => ⟨lvX bs cs, rfl⟩
theorem lvX_drop (bs : List Bool) {cs : List In} {k : Nat} (h : k < cs.length) : lvX bs (cs.drop k) = mkT (lvS bs (cs.drop k)) :: lvX bs (cs.drop (k + 1)) := by
  rw [List.drop_eq_getElem_cons h]; rfl
theorem lvX_at (bs : List Bool) : ∀ (cs : List In) (k : Nat), k ≤ cs.length → (lvX bs cs)[k]? = some (mkT (lvS bs (cs.drop k)))
  | [], k, h => by obtain rfl : k = 0 := by simpa using h
                   rfl
  | x :: cs, 0, _ => rfl
  | x :: cs, k + 1, h => by show (lvX bs cs)[k]? = _; rw [lvX_at bs cs k (by simpa using h)]; rfl
theorem mkT_len6 (bs : List Bool) : (mkT bs).length ≤ 6 := by
  unfold mkT
  rw [List.length_map]
  exact Nat.le_trans (List.length_filter_le _ _) (by simp)
def SetsGot (w : World) (xss : List (List Int)) (e : Ending) (w' : World) : Prop := ∃ A0 c0, e = .returned (.slice A0 xss.length c0) ∧ OX w' w.heap.size w'.heap.size (.slice A0 xss.length c0) xss ∧ Below w.heap.size w w'

set_option maxHeartbeats 4000000 in
theorem cdSets_any (L B L' B' : Nat) (A A' : Option Addr) (c c' : Nat) (cs : List In) (bs : List Bool) (w : World) (hl40 : cs.length ≤ 40) (hgood : ∀ x ∈ cs, goodIn x = true) (hb6 : bs.length = 6) (hes : RS In.enc 5 w L B A cs) (hB : B ≤ w.heap.size) (hns : IS w L' B' A' (mkT bs)) (hB' : B' ≤ w.heap.size) :
    Calls Try.prog 100 #[.slice A cs.length c, .slice A' (mkT bs).length c'] w (SetsGot w (lvX bs cs)) := by
  obtain ⟨i0, hi', hz0', hz1', hz2'⟩ := info_parts Try.infoII
  have hJ0 := Lib.hid hi'
  have hJ1 := Lib.hid hz0'
  have hJ2 := Lib.hid hz1'
  have hJ3 := Lib.hid hz2'
  clear hi' hz0' hz1' hz2'
  have hm6 := mkT_len6 bs
  have H3 := Lib.hid (l1Own_any L' B' A' c' (mkT bs) w (by omega) hns hB')
  have hE := Lib.hid fun (W : World) (hW : Below w.heap.size w W) => hes.below hW hB
  have hBB := Lib.hid hB
  have hD := Lib.hid fun (k : Nat) (h : k < cs.length) => lvX_drop bs h
  have hS := Lib.hid fun (k : Nat) (h : k < cs.length) => lvS_drop bs h
  have hXl := Lib.hid fun (k : Nat) => lvX_len bs (cs.drop k)
  have hHd := Lib.hid fun (k : Nat) => lvX_head bs (cs.drop k)
  have hSl := Lib.hid fun (k : Nat) => (lvS_len bs (cs.drop k)).trans hb6
  have hX0 := Lib.hid (show lvX bs (cs.drop cs.length) = [mkT bs] by rw [List.drop_length]; rfl)
  have hXn := Lib.hid (show lvX bs (cs.drop 0) = lvX bs cs by rw [List.drop_zero])
  have hG := Lib.hid hgood
  have hw1 : IntKind.i64.wrap ((cs.length : Int) - 1) = (cs.length : Int) - 1 := by rw [IntKind.wrap_i64]; omega
  clear hes hB hns hB' hgood hb6
  go_enter Try.func100, Try.ntmps100
  go_wp2_with (fail)
  refine H3.out.mono ?_
  rintro e w1 ⟨A1, c1, rfl, ho1, hb1⟩
  have A2 := (Below.refl w1.heap.size w1).alloc (Nat.le_refl _) (.cells #[.slice A1 (mkT bs).length c1] 32)
  have hz1 := hb1.size
  have hX2 : Hid (OX (w1.alloc (.cells #[.slice A1 (mkT bs).length c1] 32)) w.heap.size (w1.alloc (.cells #[.slice A1 (mkT bs).length c1] 32)).heap.size (.slice (some ⟨w1.heap.size, 0, none⟩) 1 1) [mkT bs]) := by
    have hcb : CB 32 (w1.alloc (.cells #[.slice A1 (mkT bs).length c1] 32)) w1.heap.size [.slice A1 (mkT bs).length c1] := heap_alloc_new w1 _
    exact OX.of (okv_one hcb hz1 (by simp)) (RowsX.mk1 ((ho1.below A2 (Nat.le_refl _)).more A2.size))
  have hb2 := Lib.hid (hb1.trans (A2.mono hz1))
  clear A2 ho1 hb1
  go_wp2
  generalize w1.alloc (.cells #[.slice A1 (mkT bs).length c1] 32) = W2 at *
  go_loopw [5, 6] (fun v i wr => ∃ r : Nat, r ≤ cs.length ∧ i = .int .i64 ((r : Int) - 1) ∧ OX wr w.heap.size wr.heap.size v (lvX bs (cs.drop r)) ∧ Below w.heap.size w wr) (fun _ i _ => (intOf i + 1).toNat)
  case atStart => exact ⟨cs.length, Nat.le_refl _, rfl, by rw [hX0.out]; exact hX2.out, hb2.out⟩
  case round =>
    obtain ⟨r, hr, rfl, hox, hbel⟩ := hrel
    obtain ⟨A5, c5, rfl⟩ := hox.form
    have hX := Lib.hid hox
    have hBL := Lib.hid hbel
    clear hox
    cases r with
    | zero =>
      have e0 : ((0 : Nat) : Int) - 1 = -1 := by decide
      rw [e0]
      clear hbel
      rw [hXn.out] at hX ⊢
      go_wp2
      go_ret
      exact ⟨A5, c5, rfl, hX.out, hBL.out⟩
    | succ r =>
      have e0 : ((r + 1 : Nat) : Int) - 1 = (r : Int) := by omega
      rw [e0]
      have hrl : r < cs.length := hr
      have hri : (r : Int) < (cs.length : Int) := by omega
      have hr0 : (0 : Int) ≤ (r : Int) := by omega
      obtain ⟨b, o, rfl, ⟨_, hbB⟩, hc⟩ := In.cells (hE.out _ hbel) (by omega)
      obtain ⟨d1, d2, d3, d4, d5⟩ := hc r hrl
      have hg := Lib.hid (hG.out _ (List.getElem_mem hrl))
      have hXr := Lib.hid (hD.out r hrl)
      have hSr := Lib.hid (hS.out r hrl)
      have hl1 := hXl.out (r + 1)
      have hl6 := Lib.hid (hSl.out (r + 1))
      obtain ⟨t, ht⟩ := hHd.out (r + 1)
      have hlt0 : 0 < (lvX bs (cs.drop (r + 1))).length := by omega
      obtain ⟨xb, xo, Ai, ci, rfl, hxb, xc, hI⟩ := XS.at (OX.rs hX.out) hlt0
      have hx0 : (lvX bs (cs.drop (r + 1)))[0] = mkT (lvS bs (cs.drop (r + 1))) := by simp only [ht, List.getElem_cons_zero]
      rw [hx0] at xc hI
      have hln : (cs.drop (r + 1)).length ≤ 40 := by rw [List.length_drop]; omega
      clear hc hbel ht hx0
      have hbits := Lib.hid (lvB_bits hg.out hl6.out)
      generalize cs[r] = x at *
      generalize hLr : lvX bs (cs.drop r) = Lr at *
      have hLR := Lib.hid hLr
      clear hLr
      generalize lvX bs (cs.drop (r + 1)) = Lx at *
      generalize lvS bs (cs.drop (r + 1)) = lv at *
      generalize lvS bs (cs.drop r) = lv0 at *
      have hCB := Lib.hid (cdBefore_any w.heap.size wr.heap.size Ai ci x (mkT lv) wr.drew (mkT_len6 lv) (hI.below (Below.refl wr.heap.size wr).drew (Nat.le_refl _)) (Nat.le_refl _))
      have hXd := Lib.hid (show OX wr.drew w.heap.size wr.drew.heap.size (.slice (some ⟨xb, xo, none⟩) Lx.length c5) Lx from hX.out.below (Below.refl wr.heap.size wr).drew (Nat.le_refl _))
      have hBd := Lib.hid hBL.out.drew
      rw [hbits.out, ← hSr.out] at hCB
      have hLl : Lx.length ≤ 41 := by omega
      obtain ⟨op, d, a, b1, m⟩ := x
      dsimp only at d1 d2 d3 d4 d5 hCB
      have h6l := mkT_len6 lv
      clear hbits hSr hI hg
      have xc0 : wr.cell? ⟨xb, xo, none⟩ = some (.slice Ai (mkT lv).length ci) := xc
      have h0L : (0 : Int) < (Lx.length : Int) := by omega
      clear xc hl1 hln
      go_wp2_with (fail)
      go_region_law (first
        | (go_simp; go_at_call 93; (with_reducible refine hCB.out.mono ?_); rintro e w3 ⟨A3, c3, rfl, ho3, hb3⟩; obtain ⟨vs, hvn, HL, HN, H1, HK⟩ := consX hXd.out hBd.out.size hb3 ho3 hlt0; have hB3 := Lib.hid (hBd.out.trans (hb3.mono hBd.out.size)); have HL := Lib.hid HL; have HN := Lib.hid HN; have H1 := Lib.hid H1; have HK := Lib.hid HK; have hz3 := Lib.hid hB3.out.size; clear ho3 hb3)
        | (refine step_append_lies _ rfl _ _ 48 rfl w.heap.size 32 i0 _ 1 24 Try.underlying48 hJ0.out hJ1.out hJ2.out hJ3.out rfl (by decide) _ 1 _ (by rfl) HL.out ⟨xb, xo, none⟩ Lx.length c5 vs (by rfl) (by omega) HN.out H1.out hlt0 (by unfold maxLen; omega) (by omega) (by have := hz3.out; simp; omega) (w3.heap.size + 1) (by simp) ?_; intro g' cap w5 hown5 hgr5 _ _))
      all_goals
        have hX5 := HK.out g' cap w5 hown5 hgr5
        have hB5 := Lib.hid ((hB3.out.alloc hz3.out (.cells #[.slice A3 (mkT lv0).length c3] 32)).grown hgr5 (by have := hz3.out; simp; omega) (fun k hk => by simp [Value.ownBlock] at hk; have := hz3.out; omega))
        have hX6 := Lib.hid (show OX w5 w.heap.size w5.heap.size (.slice (some ⟨g', 0, none⟩) (1 + Lx.length) cap) Lr from by rw [hXr.out]; exact hX5)
        clear hX5 hown5 hgr5
        go_wp2
        go_roundw
        case rel => exact ⟨r, by omega, rfl, by rw [hLR.out]; exact hX6.out, hB5.out⟩
        case measure => first | (simp [intOf]; done) | (simp [intOf]; omega)
end Go.Proofs.Ythjfedidpjfboaa

namespace Go.Proofs.Ythjfedidpjfboaa
open Go.RowKit
set_option linter.unusedVariables false
set_option maxRecDepth 100000

theorem step_unwanted {o : Oper} {y : Nat → Option Bool} {X E : Prop} (h : Region.wanted o y = false) (hE : E) : if Region.wanted o y = true then X else E := by rw [h]; exact hE
set_option maxHeartbeats 16000000 in
theorem cdFree_any (x y : In) (w : World) :
    Calls Try.prog 146 #[.agg #[.string x.op, .int .i64 x.d, .int .i64 x.a, .int .i64 x.b, .int .i64 x.m], .agg #[.string y.op, .int .i64 y.d, .int .i64 y.a, .int .i64 y.b, .int .i64 y.m]] w fun e w' => e = .returned (.bool (freeB x y)) ∧ Below w.heap.size w w' := by
  have hT : Hid (freeB x y = (!(x.d == y.d) && !hasI (readsL x) y.d && !hasI (readsL y) x.d)) := rfl
  have hRx := Lib.hid (cdReads_any x)
  have hRy := Lib.hid (cdReads_any y)
  have hLx := Lib.hid (readsL_len x)
  have hLy := Lib.hid (readsL_len y)
  generalize freeB x y = T at *
  generalize readsL x = Rx at *
  generalize readsL y = Ry at *
  obtain ⟨op, d, a, b, m⟩ := x
  obtain ⟨op', d', a', b', m'⟩ := y
  simp only at hT hRx hRy
  have hB2 := fun o o' => Lib.hid (((Below.refl w.heap.size w).alloc (Nat.le_refl _) o).alloc (by simp) o')
  by_cases h : d = d'
  · have hE : (d != d') = false := by simp [h]
    have hE' : (d == d') = true := by simp [h]
    have hF : Hid (T = false) := by rw [Hid, hT.out, hE']; rfl
    clear h
    go_enter Try.func146, Try.ntmps146
    go_wp2_with (fail)
    go_quiet (fail)
    go_wp2
    go_ret
    exact ⟨ret_bool hF.out.symm, below_drewN (hB2 _ _).out _⟩
  · have hE : (d != d') = true := by simp [h]
    have hE' : (d == d') = false := by simp [h]
    clear h
    cases hx : hasI Rx d'
    · have hX := Lib.hid hx
      have hHx := Lib.hid (fun L B A c W (h : IS W L B A Rx) => l1Has_lit L B A Rx.length c Rx d' _ W hx rfl (by have := hLx.out; omega) h)
      have hHy := Lib.hid (fun L B A c W (h : IS W L B A Ry) => l1Has_eq L B A Ry.length c Ry d W rfl (by have := hLy.out; omega) h)
      have hF : Hid (T = !hasI Ry d) := by rw [Hid, hT.out, hE', hx]; simp
      clear hx
      go_enter Try.func146, Try.ntmps146
      go_wp2_with (fail)
      obtain ⟨w1, hw1⟩ : ∃ w1 : World, w1 = (w.alloc (.cells #[.string op, .int .i64 d, .int .i64 a, .int .i64 b, .int .i64 m] 90)).alloc (.cells #[.string op', .int .i64 d', .int .i64 a', .int .i64 b', .int .i64 m'] 90) := ⟨_, rfl⟩
      rw [← hw1]
      obtain ⟨xa, xb, xc, xd, xe⟩ := In.box (RS.below (In.boxed (w := w) (t := 90) ⟨op, d, a, b, m⟩) (show Below (w.heap.size + 1) _ w1 by rw [hw1]; exact (Below.refl _ _).alloc (by simp) _) (by omega))
      have hy := In.boxed (w := w.alloc (.cells #[.string op, .int .i64 d, .int .i64 a, .int .i64 b, .int .i64 m] 90)) (t := 90) ⟨op', d', a', b', m'⟩
      rw [show (w.alloc (.cells #[.string op, .int .i64 d, .int .i64 a, .int .i64 b, .int .i64 m] 90)).heap.size = w.heap.size + 1 by simp, ← hw1] at hy
      obtain ⟨ya, yb, yc, yd, ye⟩ := In.box hy
      have hbw : Hid (Below w.heap.size w w1) := by rw [hw1]; exact (hB2 _ _).out
      have hz : w1.heap.size = w.heap.size + 2 := by rw [hw1]; simp
      have hz1 : w.heap.size < w1.heap.size := by omega
      have hz2 : w.heap.size + 1 < w1.heap.size := by omega
      clear hw1 hy hz
      simp only at xa xb xc xd xe ya yb yc yd ye
      go_region_law (first
        | (go_simp; go_at_call 150; (with_reducible refine (hRx.out _).mono ?_); rintro e w2 ⟨A2, c2, rfl, ho2, hb2⟩; have xa2 := (hb2.cell (p := ⟨w.heap.size, 0, none⟩) hz1).trans xa; have xb2 := (hb2.cell (p := ⟨w.heap.size, 1, none⟩) hz1).trans xb; have xc2 := (hb2.cell (p := ⟨w.heap.size, 2, none⟩) hz1).trans xc; have xd2 := (hb2.cell (p := ⟨w.heap.size, 3, none⟩) hz1).trans xd; have xe2 := (hb2.cell (p := ⟨w.heap.size, 4, none⟩) hz1).trans xe; have ya2 := (hb2.cell (p := ⟨w.heap.size + 1, 0, none⟩) hz2).trans ya; have yb2 := (hb2.cell (p := ⟨w.heap.size + 1, 1, none⟩) hz2).trans yb; have yc2 := (hb2.cell (p := ⟨w.heap.size + 1, 2, none⟩) hz2).trans yc; have yd2 := (hb2.cell (p := ⟨w.heap.size + 1, 3, none⟩) hz2).trans yd; have ye2 := (hb2.cell (p := ⟨w.heap.size + 1, 4, none⟩) hz2).trans ye; have hz12 : w.heap.size < w2.heap.size := (by have := hb2.size; exact Nat.lt_of_lt_of_le hz1 this); have hz22 : w.heap.size + 1 < w2.heap.size := (by have := hb2.size; exact Nat.lt_of_lt_of_le hz2 this))
        | (go_simp; go_at_call 150; (with_reducible refine (hRy.out _).mono ?_); rintro e w3 ⟨A3, c3, rfl, ho3, hb3⟩; have xa3 := (hb3.cell (p := ⟨w.heap.size, 0, none⟩) hz12).trans xa2; have xb3 := (hb3.cell (p := ⟨w.heap.size, 1, none⟩) hz12).trans xb2; have xc3 := (hb3.cell (p := ⟨w.heap.size, 2, none⟩) hz12).trans xc2; have xd3 := (hb3.cell (p := ⟨w.heap.size, 3, none⟩) hz12).trans xd2; have xe3 := (hb3.cell (p := ⟨w.heap.size, 4, none⟩) hz12).trans xe2; have ya3 := (hb3.cell (p := ⟨w.heap.size + 1, 0, none⟩) hz22).trans ya2; have yb3 := (hb3.cell (p := ⟨w.heap.size + 1, 1, none⟩) hz22).trans yb2; have yc3 := (hb3.cell (p := ⟨w.heap.size + 1, 2, none⟩) hz22).trans yc2; have yd3 := (hb3.cell (p := ⟨w.heap.size + 1, 3, none⟩) hz22).trans yd2; have ye3 := (hb3.cell (p := ⟨w.heap.size + 1, 4, none⟩) hz22).trans ye2)
        | (go_simp; go_at_call 92; (with_reducible refine (hHx.out _ _ _ _ _ (by exact ho2.rs)).mono ?_); rintro e w' ⟨rfl, rfl⟩)
        | (go_simp; go_at_call 92; (with_reducible refine (hHy.out _ _ _ _ _ (by exact ho3.rs)).mono ?_); rintro e w' ⟨rfl, rfl⟩))
      all_goals
        have hfin := Lib.hid (hbw.out.trans ((((Below.refl w1.heap.size w1).drew.trans hb2).trans (hb3.mono (by have := hb2.size; exact this))).mono (by omega)))
        go_wp2
        go_ret
        exact ⟨ret_bool (by rw [hF.out]), hfin.out⟩
    · have hX := Lib.hid hx
      have hHx := Lib.hid (fun L B A c W (h : IS W L B A Rx) => l1Has_lit L B A Rx.length c Rx d' _ W hx rfl (by have := hLx.out; omega) h)
      have hHy := Lib.hid (fun L B A c W (h : IS W L B A Ry) => l1Has_eq L B A Ry.length c Ry d W rfl (by have := hLy.out; omega) h)
      have hF : Hid (T = false) := by rw [Hid, hT.out, hE', hx]; rfl
      clear hx
      go_enter Try.func146, Try.ntmps146
      go_wp2_with (fail)
      obtain ⟨w1, hw1⟩ : ∃ w1 : World, w1 = (w.alloc (.cells #[.string op, .int .i64 d, .int .i64 a, .int .i64 b, .int .i64 m] 90)).alloc (.cells #[.string op', .int .i64 d', .int .i64 a', .int .i64 b', .int .i64 m'] 90) := ⟨_, rfl⟩
      rw [← hw1]
      obtain ⟨xa, xb, xc, xd, xe⟩ := In.box (RS.below (In.boxed (w := w) (t := 90) ⟨op, d, a, b, m⟩) (show Below (w.heap.size + 1) _ w1 by rw [hw1]; exact (Below.refl _ _).alloc (by simp) _) (by omega))
      have hy := In.boxed (w := w.alloc (.cells #[.string op, .int .i64 d, .int .i64 a, .int .i64 b, .int .i64 m] 90)) (t := 90) ⟨op', d', a', b', m'⟩
      rw [show (w.alloc (.cells #[.string op, .int .i64 d, .int .i64 a, .int .i64 b, .int .i64 m] 90)).heap.size = w.heap.size + 1 by simp, ← hw1] at hy
      obtain ⟨ya, yb, yc, yd, ye⟩ := In.box hy
      have hbw : Hid (Below w.heap.size w w1) := by rw [hw1]; exact (hB2 _ _).out
      have hz : w1.heap.size = w.heap.size + 2 := by rw [hw1]; simp
      have hz1 : w.heap.size < w1.heap.size := by omega
      have hz2 : w.heap.size + 1 < w1.heap.size := by omega
      clear hw1 hy hz
      simp only at xa xb xc xd xe ya yb yc yd ye
      first | (go_region_law (first
        | (refine step_unwanted (by rfl) ?_)
        | (go_simp; go_at_call 150; (with_reducible refine (hRx.out _).mono ?_); rintro e w2 ⟨A2, c2, rfl, ho2, hb2⟩; have xa2 := (hb2.cell (p := ⟨w.heap.size, 0, none⟩) hz1).trans xa; have xb2 := (hb2.cell (p := ⟨w.heap.size, 1, none⟩) hz1).trans xb; have xc2 := (hb2.cell (p := ⟨w.heap.size, 2, none⟩) hz1).trans xc; have xd2 := (hb2.cell (p := ⟨w.heap.size, 3, none⟩) hz1).trans xd; have xe2 := (hb2.cell (p := ⟨w.heap.size, 4, none⟩) hz1).trans xe; have ya2 := (hb2.cell (p := ⟨w.heap.size + 1, 0, none⟩) hz2).trans ya; have yb2 := (hb2.cell (p := ⟨w.heap.size + 1, 1, none⟩) hz2).trans yb; have yc2 := (hb2.cell (p := ⟨w.heap.size + 1, 2, none⟩) hz2).trans yc; have yd2 := (hb2.cell (p := ⟨w.heap.size + 1, 3, none⟩) hz2).trans yd; have ye2 := (hb2.cell (p := ⟨w.heap.size + 1, 4, none⟩) hz2).trans ye)
        | (go_simp; go_at_call 92; (with_reducible refine (hHx.out _ _ _ _ _ (by exact ho2.rs)).mono ?_); rintro e w' ⟨rfl, rfl⟩))) | fail
      all_goals
        go_wp2
        go_ret
        exact ⟨ret_bool hF.out.symm, hbw.out.trans (((Below.refl w1.heap.size w1).drew.trans hb2).mono (by omega))⟩
end Go.Proofs.Ythjfedidpjfboaa

namespace Go.Proofs.Ythjfedidpjfboaa
open Go.RowKit
set_option linter.unusedVariables false
set_option maxRecDepth 100000

/-- A block of one instruction, written whole. -/
def XB (w : World) (g : Nat) (x : In) : Prop := CB 90 w g (In.enc x)
theorem XB.cells {w : World} {g : Nat} {x : In} (h : XB w g x) : w.cell? ⟨g, 0, none⟩ = some (.string x.op) ∧ w.cell? ⟨g, 1, none⟩ = some (.int .i64 x.d) ∧ w.cell? ⟨g, 2, none⟩ = some (.int .i64 x.a) ∧ w.cell? ⟨g, 3, none⟩ = some (.int .i64 x.b) ∧ w.cell? ⟨g, 4, none⟩ = some (.int .i64 x.m) := by
  refine ⟨?_, ?_, ?_, ?_, ?_⟩ <;> (rw [CB.cell h]; rfl)

theorem XB.other {w : World} {g : Nat} {x : In} (h : XB w g x) (p : Addr) (v : Value) (hp : p.block ≠ g) : XB (w.setCell p v) g x := by
  unfold XB CB at *
  rw [← h]
  simp [World.setCell, Array.getElem?_modify, hp]
theorem XB.five {w : World} {g : Nat} {x : In} (y : In) (h : XB w g x) (o : Obj) :
    XB ((((((w.setCell ⟨g, 0, none⟩ (.string y.op)).setCell ⟨g, 1, none⟩ (.int .i64 y.d)).setCell ⟨g, 2, none⟩ (.int .i64 y.a)).setCell ⟨g, 3, none⟩ (.int .i64 y.b)).setCell ⟨g, 4, none⟩ (.int .i64 y.m)).alloc o) g y := by
  have h5 : XB (((((w.setCell ⟨g, 0, none⟩ (.string y.op)).setCell ⟨g, 1, none⟩ (.int .i64 y.d)).setCell ⟨g, 2, none⟩ (.int .i64 y.a)).setCell ⟨g, 3, none⟩ (.int .i64 y.b)).setCell ⟨g, 4, none⟩ (.int .i64 y.m)) g y :=
    ((((CB.set h 0 _).set 1 _).set 2 _).set 3 _).set 4 _
  exact CB.below h5 ((Below.refl _ _).alloc (Nat.le_refl _) _) (CB.lt h5)
end Go.Proofs.Ythjfedidpjfboaa

namespace Go.Proofs.Ythjfedidpjfboaa
open Go.RowKit
set_option linter.unusedVariables false
set_option maxRecDepth 100000

/-- Two boxes beside each other. -/
def Two (t : TypeId) (w : World) (g : Nat) (x y : In) : Prop := CB t w g (In.enc x) ∧ CB t w (g + 1) (In.enc y)
theorem Two.below {t : TypeId} {w w' : World} {g C : Nat} {x y : In} (h : Two t w g x y) (hb : Below C w w') (hC : g + 1 < C) : Two t w' g x y := ⟨CB.below h.1 hb (by omega), CB.below h.2 hb hC⟩
theorem cb_cells {t : TypeId} {w : World} {g : Nat} {x : In} (h : CB t w g (In.enc x)) : w.cell? ⟨g, 0, none⟩ = some (.string x.op) ∧ w.cell? ⟨g, 1, none⟩ = some (.int .i64 x.d) ∧ w.cell? ⟨g, 2, none⟩ = some (.int .i64 x.a) ∧ w.cell? ⟨g, 3, none⟩ = some (.int .i64 x.b) ∧ w.cell? ⟨g, 4, none⟩ = some (.int .i64 x.m) := by
  refine ⟨?_, ?_, ?_, ?_, ?_⟩ <;> (rw [CB.cell h]; rfl)
theorem Two.cells {t : TypeId} {w : World} {g : Nat} {x y : In} (h : Two t w g x y) :
    (w.cell? ⟨g, 0, none⟩ = some (.string x.op) ∧ w.cell? ⟨g, 1, none⟩ = some (.int .i64 x.d) ∧ w.cell? ⟨g, 2, none⟩ = some (.int .i64 x.a) ∧ w.cell? ⟨g, 3, none⟩ = some (.int .i64 x.b) ∧ w.cell? ⟨g, 4, none⟩ = some (.int .i64 x.m)) ∧
    (w.cell? ⟨g + 1, 0, none⟩ = some (.string y.op) ∧ w.cell? ⟨g + 1, 1, none⟩ = some (.int .i64 y.d) ∧ w.cell? ⟨g + 1, 2, none⟩ = some (.int .i64 y.a) ∧ w.cell? ⟨g + 1, 3, none⟩ = some (.int .i64 y.b) ∧ w.cell? ⟨g + 1, 4, none⟩ = some (.int .i64 y.m)) := ⟨cb_cells h.1, cb_cells h.2⟩
theorem two_new (t : TypeId) (w : World) (x y : In) : Two t ((w.alloc (.cells #[.string x.op, .int .i64 x.d, .int .i64 x.a, .int .i64 x.b, .int .i64 x.m] t)).alloc (.cells #[.string y.op, .int .i64 y.d, .int .i64 y.a, .int .i64 y.b, .int .i64 y.m] t)) w.heap.size x y := by
  have h0 : CB t (w.alloc (.cells #[.string x.op, .int .i64 x.d, .int .i64 x.a, .int .i64 x.b, .int .i64 x.m] t)) w.heap.size (In.enc x) := heap_alloc_new w _
  refine ⟨CB.below h0 ((Below.refl _ _).alloc (Nat.le_refl _) _) (by simp), ?_⟩
  have h1 := heap_alloc_new (w.alloc (.cells #[.string x.op, .int .i64 x.d, .int .i64 x.a, .int .i64 x.b, .int .i64 x.m] t)) (.cells #[.string y.op, .int .i64 y.d, .int .i64 y.a, .int .i64 y.b, .int .i64 y.m] t)
  rw [show (w.alloc (.cells #[.string x.op, .int .i64 x.d, .int .i64 x.a, .int .i64 x.b, .int .i64 x.m] t)).heap.size = w.heap.size + 1 by simp] at h1
  exact h1
theorem two_below (w : World) (o o' : Obj) : Below w.heap.size w ((w.alloc o).alloc o') := ((Below.refl w.heap.size w).alloc (Nat.le_refl _) o).alloc (by simp) o'
def indR (x y : In) : Bool := goodIn x && goodIn y && freeB x y
def ResAreIndependent (R0 R1 : Bool) (w : World) (e : Ending) (w' : World) : Prop := e = .returned (.tuple #[.bool R0, .bool R1]) ∧ Below w.heap.size w w'
set_option maxHeartbeats 4000000 in
theorem iAreIndependent_any (x y : In) (w : World) :
    Calls Try.prog 183 #[.agg #[.string x.op, .int .i64 x.d, .int .i64 x.a, .int .i64 x.b, .int .i64 x.m], .agg #[.string y.op, .int .i64 y.d, .int .i64 y.a, .int .i64 y.b, .int .i64 y.m]] w (ResAreIndependent (indR x y) (goodIn x && goodIn y) w) := by
  obtain ⟨op, d, a, b, m⟩ := x
  obtain ⟨op', d', a', b', m'⟩ := y
  have hT0 := Lib.hid (two_new 90 w ⟨op, d, a, b, m⟩ ⟨op', d', a', b', m'⟩)
  have hB0 := Lib.hid (two_below w (.cells #[.string op, .int .i64 d, .int .i64 a, .int .i64 b, .int .i64 m] 90) (.cells #[.string op', .int .i64 d', .int .i64 a', .int .i64 b', .int .i64 m'] 90))
  simp only at hT0
  go_enter Try.func183, Try.ntmps183
  go_wp2_with (fail)
  refine (IsInstr_any op d a b m _).mono ?_
  rintro e w1 ⟨rfl, hb⟩
  have hz1 := hb.size
  have hT1 := Lib.hid (hT0.out.below hb (by simp))
  have hB1 := Lib.hid (hB0.out.trans (hb.mono (by simp; omega)))
  clear hb
  cases hg : goodIn ⟨op, d, a, b, m⟩
  · have hR : Hid (indR ⟨op, d, a, b, m⟩ ⟨op', d', a', b', m'⟩ = false) := by simp [Hid, indR, hg]
    have hK : Hid ((goodIn ⟨op, d, a, b, m⟩ && goodIn ⟨op', d', a', b', m'⟩) = false) := by simp [Hid, hg]
    go_wp2
    go_ret2
    rw [hR.out, hK.out]; exact ⟨rfl, hB1.out⟩
  have hG := Lib.hid hg
  clear hg
  obtain ⟨⟨xa, xb, xc, xd, xe⟩, ⟨ya, yb, yc, yd, ye⟩⟩ := hT1.out.cells
  simp only at xa xb xc xd xe ya yb yc yd ye
  go_wp2_with (fail)
  refine (IsInstr_any op' d' a' b' m' _).mono ?_
  rintro e w2 ⟨rfl, hb⟩
  clear xa xb xc xd xe ya yb yc yd ye
  have hz2 := hb.size
  simp at hz1
  have hT2 := Lib.hid (hT1.out.below hb (by omega))
  have hB2 := Lib.hid (hB1.out.trans (hb.mono (by omega)))
  clear hb
  cases hg : goodIn ⟨op', d', a', b', m'⟩
  · have hR : Hid (indR ⟨op, d, a, b, m⟩ ⟨op', d', a', b', m'⟩ = false) := by simp [Hid, indR, hg]
    have hK : Hid ((goodIn ⟨op, d, a, b, m⟩ && goodIn ⟨op', d', a', b', m'⟩) = false) := by simp [Hid, hg]
    go_wp2
    go_ret2
    rw [hR.out, hK.out]; exact ⟨rfl, hB2.out⟩
  have hK : Hid ((goodIn ⟨op, d, a, b, m⟩ && goodIn ⟨op', d', a', b', m'⟩) = true) := by rw [Hid, hG.out, hg]; rfl
  have hR : Hid (indR ⟨op, d, a, b, m⟩ ⟨op', d', a', b', m'⟩ = freeB ⟨op, d, a, b, m⟩ ⟨op', d', a', b', m'⟩) := by rw [Hid, indR, hG.out, hg]; rfl
  clear hg
  obtain ⟨⟨xa, xb, xc, xd, xe⟩, ⟨ya, yb, yc, yd, ye⟩⟩ := hT2.out.cells
  simp only at xa xb xc xd xe ya yb yc yd ye
  have hF := Lib.hid (free_touch ⟨op, d, a, b, m⟩ ⟨op', d', a', b', m'⟩)
  go_wp2_with (fail)
  refine (isTouching_any ⟨op, d, a, b, m⟩ ⟨op', d', a', b', m'⟩ _).mono ?_
  rintro e w3 ⟨rfl, hb⟩
  clear xa xb xc xd xe ya yb yc yd ye
  have hz3 := hb.size
  have hT3 := Lib.hid (hT2.out.below hb (by omega))
  have hB3 := Lib.hid (hB2.out.trans (hb.mono (by omega)))
  clear hb
  cases ht : touchB ⟨op, d, a, b, m⟩ ⟨op', d', a', b', m'⟩
  · have hF' : Hid (freeB ⟨op, d, a, b, m⟩ ⟨op', d', a', b', m'⟩ = !touchB ⟨op', d', a', b', m'⟩ ⟨op, d, a, b, m⟩) := by rw [Hid, hF.out, ht]; simp
    obtain ⟨⟨xa, xb, xc, xd, xe⟩, ⟨ya, yb, yc, yd, ye⟩⟩ := hT3.out.cells
    simp only at xa xb xc xd xe ya yb yc yd ye
    go_wp2_with (fail)
    refine (isTouching_any ⟨op', d', a', b', m'⟩ ⟨op, d, a, b, m⟩ _).mono ?_
    rintro e w4 ⟨rfl, hb⟩
    have hB4 := Lib.hid (hB3.out.trans (hb.mono (by omega)))
    clear hb xa xb xc xd xe ya yb yc yd ye
    generalize touchB ⟨op', d', a', b', m'⟩ ⟨op, d, a, b, m⟩ = F at *
    go_wp2
    go_ret2
    rw [hR.out, hK.out, hF'.out]; exact ⟨rfl, hB4.out⟩
  · have hF' : Hid (freeB ⟨op, d, a, b, m⟩ ⟨op', d', a', b', m'⟩ = false) := by rw [Hid, hF.out, ht]; simp
    go_wp2
    go_ret2
    rw [hR.out, hK.out, hF'.out]; exact ⟨rfl, hB3.out⟩

end Go.Proofs.Ythjfedidpjfboaa

namespace Go.Proofs.Ythjfedidpjfboaa
open Go.RowKit
set_option linter.unusedVariables false
set_option maxRecDepth 100000

theorem five_one (y : In) : ∀ u ∈ In.enc y, u.oneCell' = true := by intro u hu; simp [In.enc] at hu; rcases hu with rfl | rfl | rfl | rfl | rfl <;> rfl
theorem five_ones (es : List In) : ∀ u ∈ es.flatMap In.enc, u.oneCell' = true := by
  intro u hu
  obtain ⟨x, _, hx⟩ := List.mem_flatMap.1 hu
  exact five_one x u hx
theorem OK.ofRow {w : World} {lo : Nat} {v : Value} {n : Nat} {xs : List In} (h : w.ownsRow lo 90 5 v n (xs.flatMap In.enc)) (hn : n = xs.length) : OK In.enc 5 90 w lo w.heap.size v xs := by
  subst hn; exact ⟨h, fun j hj => (h.lt j hj).2⟩
set_option maxHeartbeats 1000000 in
/-- slices.Clone of code that lies in memory. -/
theorem CloneC_any (b o c : Nat) (xs : List In) (L B : Nat) (w : World) (hl : xs.length ≤ 1048576) (hx : RS In.enc 5 w L B (some ⟨b, o, none⟩) xs) (hB : B ≤ w.heap.size) :
    Calls Try.prog 84 #[.slice (some ⟨b, o, none⟩) xs.length c] w (FreshInstr w xs) := by
  obtain ⟨i0, hi, hz0, hz1, hz2⟩ := info_parts Try.infoInstr
  have hb0 := Lib.hid ((Below.refl w.heap.size w).alloc (Nat.le_refl _) (.cells #[] 90))
  have hnews := Lib.hid ((hx.below hb0.out hB).news In.hk)
  have hown := Lib.hid (World.ownsRow_made (base := w.heap.size) (e := 90) (size := 5) w #[] 0 (Nat.le_refl _) (by unfold maxLen; omega) (by simp))
  clear hx
  have heq := Lib.run_eql_slice_nil (P := Try.prog) w 34 90 (some ⟨b, o, none⟩) xs.length c 0 0 Try.underlying34
  simp only [Option.isNone_some] at heq
  go_enter Try.func84, Try.ntmps84
  go_wp2_with (at_builtin; refine wpList_append_src rfl _ _ 34 rfl w.heap.size 90 i0 _ 5 48 Try.underlying34 hi hz0 hz1 hz2 rfl (by decide) _ 0 [] rfl hown.out (some ⟨b, o, none⟩) xs.length c (xs.flatMap In.enc) rfl (kflat_len In.hk xs) hnews.out (five_ones xs) (by unfold maxLen; omega) (by omega) (by simp) ?_; intro v' w1 hown' hgrow _)
  simp only [Nat.zero_add, List.nil_append] at hown'
  have ho : Hid (OK In.enc 5 90 w1 w.heap.size w1.heap.size v' xs) := OK.ofRow hown' rfl
  have hb : Hid (Below w.heap.size w w1) := hb0.out.grown hgrow (by simp) (fun k hk => by cases hk; exact Nat.le_refl _)
  obtain ⟨A', c', rfl, _⟩ := OK.form In.hk ho.out
  clear hown' hgrow
  go_wp2
  go_ret
  exact ⟨_, _, rfl, ho.out, hb.out⟩

def swOk (es : List In) (i : Int) : Bool := okCode es && inR i 0 (es.length - 2) && freeB (es.getD i.toNat zeroIn) (es.getD (i.toNat + 1) zeroIn)
def swapR (es : List In) (i : Int) : List In := if swOk es i = true then (es.set i.toNat (es.getD (i.toNat + 1) zeroIn)).set (i.toNat + 1) (es.getD i.toNat zeroIn) else []
theorem swapR_len (es : List In) (i : Int) : (swapR es i).length ≤ 1048576 := by
  unfold swapR; split
  · rename_i h; simp only [swOk, Bool.and_eq_true] at h
    have := okCode_len h.1.1; simp; omega
  · simp
theorem swapR_no {es : List In} {i : Int} (h : swOk es i = false) : swapR es i = [] := by simp [swapR, h]
theorem inR_nat {i : Int} {n : Nat} (h : inR i 0 ((n : Int) - 2) = true) : ∃ k : Nat, i = k ∧ k + 1 < n := by
  rw [inR_iff] at h
  obtain ⟨k, rfl⟩ := Int.eq_ofNat_of_zero_le h.1
  exact ⟨k, rfl, by omega⟩

set_option maxHeartbeats 8000000 in
theorem iSwap_any (L B : Nat) (A : Option Addr) (c : Nat) (es : List In) (i : Int) (w : World) (hl : es.length ≤ 1048576) (hes : RS In.enc 5 w L B A es) (hB : B ≤ w.heap.size) :
    Calls Try.prog 147 #[.slice A es.length c, .int .i64 i] w (ResSwapNeighbours (swapR es i) (swOk es i) w) := by
  have H := Lib.hid (IsCode_any L B A c es w hl hes hB)
  have hE := Lib.hid hes
  have hBB := Lib.hid hB
  have hX := Lib.hid (fun W => isIndex_any i ((es.length : Int) - 1) W)
  rw [show (es.length : Int) - 1 - 1 = es.length - 2 by omega] at hX
  clear hes hB
  go_enter Try.func147, Try.ntmps147
  go_wp2_with (fail)
  refine H.out.mono ?_
  rintro e w2 ⟨rfl, hb⟩
  have hbb := Lib.hid hb
  have hz := hb.size
  have hE2 := Lib.hid (hE.out.below hb hBB.out)
  clear hb
  cases hg : okCode es
  · have hK : Hid (swOk es i = false) := by simp [Hid, swOk, hg]
    have hR := Lib.hid (swapR_no hK.out)
    go_wp2
    go_ret2
    rw [hR.out, hK.out]; exact ⟨none, 0, rfl, OK.nil _ _ _ _, hbb.out⟩
  have hG := Lib.hid hg
  have hlen := Lib.hid (okCode_len hg)
  have hall := Lib.hid (okCode_all hg)
  clear hg
  cases hr : inR i 0 ((es.length : Int) - 2)
  · have hK : Hid (swOk es i = false) := by simp [Hid, swOk, hr]
    have hR := Lib.hid (swapR_no hK.out)
    rw [hr] at hX
    clear hr
    go_wp2_with (go_at_call 158; refine (hX.out _).mono ?_; rintro e w' ⟨rfl, rfl⟩)
    go_ret2
    rw [hR.out, hK.out]; exact ⟨none, 0, rfl, OK.nil _ _ _ _, hbb.out⟩
  obtain ⟨n, rfl, hn⟩ := inR_nat hr
  have hr' := Lib.hid hr
  have hn' : n < es.length := by omega
  rw [hr] at hX
  obtain ⟨b, o, rfl, ⟨_, hbB⟩, hc⟩ := In.cells hE2.out (by omega)
  obtain ⟨c1, c2, c3, c4, c5⟩ := hc n hn'
  obtain ⟨d1, d2, d3, d4, d5⟩ := hc (n + 1) hn
  clear hc hr
  have hg0 : es.getD n zeroIn = es[n] := by rw [List.getD_eq_getElem?_getD, List.getElem?_eq_getElem hn']; rfl
  have hg1 : es.getD (n + 1) zeroIn = es[n + 1] := by rw [List.getD_eq_getElem?_getD, List.getElem?_eq_getElem hn]; rfl
  have hK0 : Hid (swOk es n = freeB es[n] es[n + 1]) := by rw [Hid, swOk, hG.out, hr'.out, Int.toNat_natCast, hg0, hg1]; rfl
  have hR0 : Hid (swOk es n = true → swapR es n = (es.set n es[n + 1]).set (n + 1) es[n]) := by intro h; rw [swapR, if_pos h, Int.toNat_natCast, hg0, hg1]
  have hA := Lib.hid (fun W => iAreIndependent_any es[n] es[n + 1] W)
  have hgd : goodIn es[n] = true ∧ goodIn es[n + 1] = true := ⟨hall.out _ (List.getElem_mem _), hall.out _ (List.getElem_mem _)⟩
  have hI : Hid (indR es[n] es[n + 1] = freeB es[n] es[n + 1] ∧ (goodIn es[n] && goodIn es[n + 1]) = true) := by rw [Hid, indR, hgd.1, hgd.2]; exact ⟨rfl, rfl⟩
  rw [hI.out.1, hI.out.2] at hA
  clear hgd hI hg0 hg1
  have i1 : (n : Int) < es.length := by omega
  have i2 : (n : Int) + 1 < es.length := by omega
  have hw1 : IntKind.i64.wrap ((n : Int) + 1) = (n : Int) + 1 := IntWalk.i64_in _ (by omega)
  have hw2 : ((n : Int) + 1).toNat = n + 1 := by omega
  have i0 : (0 : Int) ≤ (n : Int) + 1 := by omega
  have hCl := Lib.hid (fun W (h : RS In.enc 5 W L B (some ⟨b, o, none⟩) es) (hB : B ≤ W.heap.size) => CloneC_any b o c es L B W hl h hB)
  generalize hx : es[n] = x at *
  generalize hy : es[n + 1] = y at *
  obtain ⟨op, d, a, b1, m⟩ := x
  obtain ⟨op', d', a', b1', m'⟩ := y
  have hxx := Lib.hid hx
  have hyy := Lib.hid hy
  clear hx hy
  simp only at c1 c2 c3 c4 c5 d1 d2 d3 d4 d5 hA
  go_wp2_with (go_at_call 158; refine (hX.out _).mono ?_; rintro e w' ⟨rfl, rfl⟩)
  go_region_law (go_simp; go_at_call 183; (with_reducible refine (hA.out _).mono ?_); rintro e w3 ⟨rfl, hb3⟩)
  all_goals
    have hb3' := Lib.hid ((Below.refl w2.heap.size w2).drew.trans hb3)
    have hbb3 := Lib.hid (hbb.out.trans (hb3'.out.mono hz))
    have hz3 := hb3'.out.size
    have hE3 := Lib.hid (hE2.out.below hb3'.out (by have := hBB.out; omega))
    clear hb3
    cases hf : freeB ⟨op, d, a, b1, m⟩ ⟨op', d', a', b1', m'⟩
    · have hK : Hid (swOk es n = false) := by rw [Hid, hK0.out, hf]
      have hR := Lib.hid (swapR_no hK.out)
      go_wp2
      go_ret2
      rw [hR.out, hK.out]; exact ⟨none, 0, rfl, OK.nil _ _ _ _, hbb3.out⟩
    have hK : Hid (swOk es n = true) := by rw [Hid, hK0.out, hf]
    have hR := Lib.hid (hR0.out hK.out)
    clear hf c1 c2 c3 c4 c5 d1 d2 d3 d4 d5
    go_wp2_with (fail)
    refine (hCl.out _ hE3.out (by have := hBB.out; omega)).mono ?_
    rintro e w4 ⟨A4, k4, rfl, ho4, hb4⟩
    have hz4 := hb4.size
    have hbb4 := Lib.hid (hbb3.out.trans (hb4.mono (by omega)))
    have hE4 := Lib.hid (hE3.out.below hb4 (by have := hBB.out; omega))
    clear hb4
    rcases OK.open ho4 with ⟨_, h0⟩ | ⟨g, cap, hv, hgl, hgh, hlc, hcm, rest, hcb, hcl⟩
    · omega
    injection hv with e1 e2 e3; subst e1; subst e3
    obtain ⟨b2, o2, e5, ⟨_, hbB2⟩, hc⟩ := In.cells hE4.out (by omega)
    injection e5 with e5; injection e5 with e5 e6 _; subst e5; subst e6
    obtain ⟨c1, c2, c3, c4, c5⟩ := hc n hn'
    obtain ⟨d1, d2, d3, d4, d5⟩ := hc (n + 1) hn
    rw [hxx.out] at c1 c2 c3 c4 c5
    rw [hyy.out] at d1 d2 d3 d4 d5
    simp only at c1 c2 c3 c4 c5 d1 d2 d3 d4 d5
    have hCB := Lib.hid hcb
    obtain ⟨z0, z1, z2, z3, z4, p1, p2, p3, p4, p5⟩ := In.cellsB hcb n hn'
    obtain ⟨y0, y1, y2, y3, y4, q1, q2, q3, q4, q5⟩ := In.cellsB hcb (n + 1) hn
    have f1 := hcb.frozen (n * 5)
    have f2 := hcb.frozen (n * 5 + 1)
    have f3 := hcb.frozen (n * 5 + 2)
    have f4 := hcb.frozen (n * 5 + 3)
    have f5 := hcb.frozen (n * 5 + 4)
    have g1 := hcb.frozen ((n + 1) * 5)
    have g2 := hcb.frozen ((n + 1) * 5 + 1)
    have g3 := hcb.frozen ((n + 1) * 5 + 2)
    have g4 := hcb.frozen ((n + 1) * 5 + 3)
    have g5 := hcb.frozen ((n + 1) * 5 + 4)
    have hgb : Hid (b ≠ g) := by have := hBB.out; simp only [Hid]; omega
    have hne : ¬ b = g := hgb.out
    have hne' : ¬ g = b := fun h => hne h.symm
    clear hc hcb ho4
    go_wp2_with (fail)
    go_region_with (fail)
    all_goals
      have h1 := hCB.out.store In.hk n hn' ⟨op', d', a', b1', m'⟩
      have h2 := h1.store In.hk (n + 1) (by rw [List.length_set]; exact hn) ⟨op, d, a, b1, m⟩
      have hle : ((es.set n (⟨op', d', a', b1', m'⟩ : In)).set (n + 1) ⟨op, d, a, b1, m⟩).length = es.length := by rw [List.length_set, List.length_set]
      have h3 := OK.close (lo := w.heap.size) In.hk h2 (by omega) (CB.lt h2) (by rw [hle]; exact hlc) hcm (by rw [List.length_append, kflat_len In.hk, hle]; rw [List.length_append, kflat_len In.hk] at hcl; exact hcl)
      have hfin := Lib.hid h3
      have hle' := Lib.hid hle
      have hbf := Lib.hid (below_setCells (In.enc ⟨op, d, a, b1, m⟩) g ((n + 1) * 5) (below_setCells (In.enc ⟨op', d', a', b1', m'⟩) g (n * 5) hbb4.out (by omega)) (by omega))
      clear h1 h2 h3 hle
      simp only [setCells, In.enc, Nat.add_assoc, Nat.reduceAdd] at hfin hbf
      clear c1 c2 c3 c4 c5 d1 d2 d3 d4 d5 p1 p2 p3 p4 p5 q1 q2 q3 q4 q5 f1 f2 f3 f4 f5 g1 g2 g3 g4 g5 hCB
      generalize (World.setCell _ _ _) = W at hfin hbf ⊢
      generalize ((es.set n (⟨op', d', a', b1', m'⟩ : In)).set (n + 1) ⟨op, d, a, b1, m⟩) = Z at *
      go_wp2
      go_ret2
      rw [hR.out, hK.out]
      refine ⟨some ⟨g, 0, none⟩, k4, by rw [hle'.out]; rfl, ?_, ?_⟩
      · exact hfin.out
      · exact hbf.out.drew
end Go.Proofs.Ythjfedidpjfboaa
