/- Texts of this proof, one behind the other: HE, BR, BS, BO, YA, EA. -/
import Derived.Test.YthjfedidpjfboaaZ6
import Derived.Test.YthjfedidpjfboaaV2
import Derived.Test.YthjfedidpjfboaaV3
import Derived.WalkKit
import Derived.Lib.Hide
import Derived.WalkSpells
import Derived.WalkLawsBesides
import Derived.Deep.RegionHeld3
import Derived.Deep.RegionLaw
import Derived.Deep.AppendLies
import Derived.Test.YthjfedidpjfboaaZ10
import Derived.Test.YthjfedidpjfboaaZ8
import Derived.Test.YthjfedidpjfboaaLI
import Derived.Test.YthjfedidpjfboaaK
/- Slices of slices of ints, in the form that glawu.py's calls take. -/
namespace Go.Proofs.Ythjfedidpjfboaa
open Go.RowKit
set_option linter.unusedVariables false

def SmallX (xss : List (List Int)) : Prop := xss.length ≤ 1048576 ∧ (xss.map List.length).sum ≤ 1048576
theorem le_sum_of_mem {n : Nat} : ∀ {ns : List Nat}, n ∈ ns → n ≤ ns.sum
  | m :: ns, h => by
    rw [List.sum_cons]
    rcases List.mem_cons.1 h with rfl | h
    · omega
    · have := le_sum_of_mem h; omega
theorem SmallX.rows {xss : List (List Int)} (h : SmallX xss) : ∀ xs ∈ xss, xs.length ≤ 1048576 := fun xs hx => Nat.le_trans (le_sum_of_mem (List.mem_map.2 ⟨xs, hx, rfl⟩)) h.2
theorem OX.chg {w w' : World} {L B lo hi : Nat} {v : Value} {xss : List (List Int)} (h : OX w L B v xss) (hc : Chg lo hi w w') (hd : B ≤ lo ∨ hi ≤ L) : OX w' L B v xss := by
  obtain ⟨vs, hl, hr, hx, hD, hA⟩ := h
  exact ⟨vs, hl, hr.chg hc hd, fun i h h' => ⟨(hx i h h').1, (hx i h h').2.chg hc hd⟩, hD, hA⟩
theorem OX.more {w : World} {L B B' : Nat} {v : Value} {xss : List (List Int)} (h : OX w L B v xss) (hB : B ≤ B') : OX w L B' v xss := by
  obtain ⟨vs, hl, hr, hx, hD, hA⟩ := h
  exact ⟨vs, hl, hr.more hB, fun i h h' => ⟨(hx i h h').1, (hx i h h').2.more hB⟩, hD, hA⟩
theorem OX.nil (w : World) (L B : Nat) : OX w L B (.slice none 0 0) [] := ⟨[], rfl, OK.nil _ _ _ _, fun i h => absurd h (by simp), fun i j h => absurd h (by simp), fun _ _ i h => absurd h (by simp)⟩
theorem eqIntSS_k (L B L' B' : Nat) (A A' : Option Addr) (m m' c c' : Nat) (xss xss' : List (List Int)) (w : World) (hm : m = xss.length) (hm' : m' = xss'.length) (hl : SmallX xss) (hx : XS w L B A xss) (hx' : XS w L' B' A' xss') (hB : B ≤ w.heap.size) (hB' : B' ≤ w.heap.size) (heq : xss = xss') :
    Calls Try.prog 44 #[.slice A m c, .slice A' m' c'] w fun e w' => e = .returned (.bool true) ∧ Below w.heap.size w w' := by
  subst heq; subst hm; obtain rfl := hm'
  exact eqIntSS_any L B L' B' A A' c c' xss w hl.1 hl.rows hx hx' hB hB'
theorem marksSS_lens : ∀ (k0 : Int) (ns : List Nat), (marksSS k0 ns).map List.length = ns
  | _, [] => rfl
  | k0, n :: ns => by simp [marksSS, marksSS_lens, marks_len]
theorem heldIntSS_k (L B : Nat) (A : Option Addr) (c : Nat) (xss : List (List Int)) (n : Nat) (k0 : Int) (w : World) (hl : SmallX xss) (hn : n = xss.length) (hk0 : 0 ≤ k0) (hk1 : k0 ≤ 1000000) (hx : XS w L B A (marksSS k0 (xss.map List.length))) :
    Calls Try.prog 46 #[.slice A n c, .int .i64 k0] w fun e w' => e = .returned (.int .i64 (k0 + ((xss.map List.length).sum : Nat))) ∧ Below w.heap.size w w' := by
  subst hn
  have := heldIntSS_any L B A c (xss.map List.length) k0 w (by rw [List.length_map]; exact hl.1) hl.2 hk0 hk1 hx
  rw [List.length_map] at this
  exact this.mono fun e w' ⟨h1, h2⟩ => ⟨h1, by subst h2; exact Below.refl _ _⟩
theorem markIntSS_k (lo hi : Nat) (A : Option Addr) (c : Nat) (xss : List (List Int)) (k0 : Int) (w : World) (hl : SmallX xss) (hk0 : 0 ≤ k0) (hk1 : k0 ≤ 1000000) (hx : OX w lo hi (.slice A xss.length c) xss) :
    Calls Try.prog 45 #[.slice A xss.length c, .int .i64 k0] w (MarkedX w lo hi (.slice A xss.length c) xss k0) := markIntSS_any lo hi A c xss k0 w hl.1 hl.2 hk0 hk1 hx
end Go.Proofs.Ythjfedidpjfboaa

/- Slices of slices of ints of the call's own: made, laid ahead, laid behind, stored into. -/
namespace Go.Proofs.Ythjfedidpjfboaa
open Go.RowKit
set_option linter.unusedVariables false

theorem Try.infoII : (Try.prog.info? 32).map (fun i => (i.zero, i.size, i.bytes)) = some (some (.slice none 0 0), 1, 24) := by kernel_rfl
theorem rowNeX {w : World} {L1 L2 k1 k2 n1 n2 : Nat} {t1 t2 : TypeId} {v1 v2 : Value} {x1 x2 : List Value} (h1 : w.ownsRow L1 t1 k1 v1 n1 x1) (h2 : w.ownsRow L2 t2 k2 v2 n2 x2) (ht : t1 ≠ t2) : ∀ j, v1.ownBlock = some j → v2.ownBlock ≠ some j := by
  intro j e1 e2
  rcases h1.2 with ⟨rfl, _⟩ | ⟨g, cap, cur, rfl, _, hh, _⟩
  · simp [Value.ownBlock] at e1
  · rcases h2.2 with ⟨rfl, _⟩ | ⟨g', cap', cur', rfl, _, hh', _⟩
    · simp [Value.ownBlock] at e2
    · have a1 : g = j := by simpa [Value.ownBlock] using e1
      have a2 : g' = j := by simpa [Value.ownBlock] using e2
      subst a1; subst a2
      rw [hh] at hh'; injection hh' with hh'; injection hh' with _ h9
      exact ht h9
/-- The rows: each of the call's own, no two in one block. -/
structure RowsX (w : World) (lo hi : Nat) (vs : List Value) (xss : List (List Int)) : Prop where
  len : vs.length = xss.length
  row : ∀ i (h : i < vs.length) (h' : i < xss.length), (∃ Ai ci, vs[i] = .slice Ai (xss[i]).length ci) ∧ OW w lo hi vs[i] xss[i]
  apart : ∀ i j (h : i < vs.length) (h' : j < vs.length), i ≠ j → ∀ b, vs[i].ownBlock = some b → vs[j].ownBlock ≠ some b
theorem OX.of {w : World} {lo hi : Nat} {v : Value} {vs : List Value} {xss : List (List Int)} (hO : OK encV 1 32 w lo hi v vs) (h : RowsX w lo hi vs xss) : OX w lo hi v xss :=
  ⟨vs, h.len, hO, h.row, h.apart, fun b hb i hi' => rowNeX hO.1 (h.row i hi' (by rw [← h.len]; exact hi')).2.1 (by decide) b hb⟩
theorem OX.parts {w : World} {lo hi : Nat} {v : Value} {xss : List (List Int)} (h : OX w lo hi v xss) : ∃ vs, OK encV 1 32 w lo hi v vs ∧ RowsX w lo hi vs xss := by
  obtain ⟨vs, hl, hO, hr, hd, _⟩ := h
  exact ⟨vs, hO, hl, hr, hd⟩
theorem RowsX.mk1 {w : World} {lo hi : Nat} {v0 : Value} {xs : List Int} (h : OW w lo hi v0 xs) : RowsX w lo hi [v0] [xs] := by
  refine ⟨rfl, fun i h1 h2 => ?_, fun i j h1 h2 hne => ?_⟩
  · obtain rfl : i = 0 := by simpa using h1
    obtain ⟨A, c, e, _⟩ := h.form
    exact ⟨⟨A, c, e⟩, h⟩
  · simp at h1 h2; omega
theorem OW.fresh {w : World} {lo hi b : Nat} {v : Value} {xs : List Int} (h : OW w lo hi v xs) (e : v.ownBlock = some b) : lo ≤ b ∧ b < hi := h.lo b e
theorem RowsX.cons {w : World} {lo hi hi0 : Nat} {v0 : Value} {xs : List Int} {vs : List Value} {xss : List (List Int)} (h : RowsX w lo hi vs xss) (h0 : OW w hi hi0 v0 xs) (hle : hi ≤ hi0) (hlo : lo ≤ hi) : RowsX w lo hi0 (v0 :: vs) (xs :: xss) := by
  refine ⟨by simp [h.len], fun i h1 h2 => ?_, fun i j h1 h2 hne b hb => ?_⟩
  · cases i with
    | zero =>
      obtain ⟨A, c, e, _⟩ := h0.form
      exact ⟨⟨A, c, e⟩, h0.lower hlo⟩
    | succ i =>
      have hr := h.row i (by simpa using h1) (by simpa using h2)
      exact ⟨hr.1, hr.2.more hle⟩
  · cases i with
    | zero =>
      cases j with
      | zero => omega
      | succ j =>
        intro e
        have h3 : j < vs.length := by simpa using h2
        have := (h.row j h3 (by rw [← h.len]; exact h3)).2.fresh (by simpa using e)
        have := h0.fresh (by simpa using hb)
        omega
    | succ i =>
      have h3 : i < vs.length := by simpa using h1
      cases j with
      | zero =>
        intro e
        have := (h.row i h3 (by rw [← h.len]; exact h3)).2.fresh (by simpa using hb)
        have := h0.fresh (by simpa using e)
        omega
      | succ j => exact h.apart i j h3 (by simpa using h2) (by omega) b (by simpa using hb)
theorem RowsX.set {w : World} {lo hi hi0 : Nat} {v0 : Value} {xs : List Int} {vs : List Value} {xss : List (List Int)} (h : RowsX w lo hi vs xss) (k : Nat) (h0 : OW w hi hi0 v0 xs) (hle : hi ≤ hi0) (hlo : lo ≤ hi) : RowsX w lo hi0 (vs.set k v0) (xss.set k xs) := by
  refine ⟨by simp [h.len], fun i h1 h2 => ?_, fun i j h1 h2 hne b hb => ?_⟩
  · rw [List.length_set] at h1 h2
    rw [List.getElem_set, List.getElem_set]
    by_cases e : k = i
    · rw [if_pos e, if_pos e]
      obtain ⟨A, c, e2, _⟩ := h0.form
      exact ⟨⟨A, c, e2⟩, h0.lower hlo⟩
    · rw [if_neg e, if_neg e]
      have hr := h.row i h1 h2
      exact ⟨hr.1, hr.2.more hle⟩
  · rw [List.length_set] at h1 h2
    rw [List.getElem_set] at hb ⊢
    by_cases e1 : k = i
    · rw [if_pos e1] at hb
      rw [if_neg (by omega)]
      intro e
      have := (h.row j h2 (by rw [← h.len]; exact h2)).2.fresh e
      have := h0.fresh hb
      omega
    · rw [if_neg e1] at hb
      by_cases e2 : k = j
      · rw [if_pos e2]
        intro e
        have := (h.row i h1 (by rw [← h.len]; exact h1)).2.fresh hb
        have := h0.fresh e
        omega
      · rw [if_neg e2]; exact h.apart i j h1 h2 hne b hb
theorem RowsX.snoc {w : World} {lo hi hi0 : Nat} {v0 : Value} {xs : List Int} {vs : List Value} {xss : List (List Int)} (h : RowsX w lo hi vs xss) (h0 : OW w hi hi0 v0 xs) (hle : hi ≤ hi0) (hlo : lo ≤ hi) : RowsX w lo hi0 (vs ++ [v0]) (xss ++ [xs]) := by
  have hl := h.len
  refine ⟨by simp [h.len], fun i h1 h2 => ?_, fun i j h1 h2 hne b hb => ?_⟩
  · by_cases e : i < vs.length
    · rw [List.getElem_append_left e, List.getElem_append_left (by omega)]
      have hr := h.row i e (by omega)
      exact ⟨hr.1, hr.2.more hle⟩
    · have e2 : i = vs.length := by simp at h1; omega
      subst e2
      rw [List.getElem_append_right (Nat.le_refl _), List.getElem_append_right (by omega)]
      obtain ⟨A, c, e2, _⟩ := h0.form
      simp only [hl, Nat.sub_self, List.getElem_cons_zero]
      exact ⟨⟨A, c, e2⟩, h0.lower hlo⟩
  · by_cases e1 : i < vs.length
    · rw [List.getElem_append_left e1] at hb
      by_cases e2 : j < vs.length
      · rw [List.getElem_append_left e2]; exact h.apart i j e1 e2 hne b hb
      · have e3 : j = vs.length := by simp at h2; omega
        subst e3
        rw [List.getElem_append_right (Nat.le_refl _)]
        simp only [Nat.sub_self, List.getElem_cons_zero]
        intro e
        have := (h.row i e1 (by omega)).2.fresh hb
        have := h0.fresh e
        omega
    · have e3 : i = vs.length := by simp at h1; omega
      subst e3
      rw [List.getElem_append_right (Nat.le_refl _)] at hb
      simp only [Nat.sub_self, List.getElem_cons_zero] at hb
      have e2 : j < vs.length := by simp at h2; omega
      rw [List.getElem_append_left e2]
      intro e
      have := (h.row j e2 (by omega)).2.fresh e
      have := h0.fresh hb
      omega
theorem RowsX.more {w : World} {lo hi hi' : Nat} {vs : List Value} {xss : List (List Int)} (h : RowsX w lo hi vs xss) (hh : hi ≤ hi') : RowsX w lo hi' vs xss :=
  ⟨h.len, fun i h1 h2 => ⟨(h.row i h1 h2).1, (h.row i h1 h2).2.more hh⟩, h.apart⟩
theorem RowsX.chg {w w' : World} {L B lo hi : Nat} {vs : List Value} {xss : List (List Int)} (h : RowsX w L B vs xss) (hc : Chg lo hi w w') (hd : B ≤ lo ∨ hi ≤ L) : RowsX w' L B vs xss :=
  ⟨h.len, fun i h1 h2 => ⟨(h.row i h1 h2).1, (h.row i h1 h2).2.chg hc hd⟩, h.apart⟩
/-- A slice of another type grows. -/
theorem RowsX.grown {w w' : World} {lo hi L n : Nat} {u : Value} {xs : List Value} {vs : List Value} {xss : List (List Int)} (h : RowsX w lo hi vs xss) (hu : w.ownsRow L 32 1 u n xs) (hg : w.grownBy w' u.ownBlock) : RowsX w' lo hi vs xss :=
  ⟨h.len, fun i h1 h2 => ⟨(h.row i h1 h2).1, (h.row i h1 h2).2.turned hg (fun b hb => rowNeX hu (h.row i h1 h2).2.1 (by decide) b hb)⟩, h.apart⟩
/-- A block of another type is stored into. -/
theorem RowsX.stored {w : World} {lo hi g k : Nat} {t : TypeId} {cur : List Value} {u : Value} {vs : List Value} {xss : List (List Int)} (h : RowsX w lo hi vs xss) (hb : CB t w g cur) (ht : t ≠ 3) : RowsX (w.setCell ⟨g, k, none⟩ u) lo hi vs xss :=
  ⟨h.len, fun i h1 h2 => ⟨(h.row i h1 h2).1, by
    have hO := (h.row i h1 h2).2
    refine ⟨hO.1.kept (row := some g) ⟨rfl, rfl, rfl, Nat.le_of_eq (World.size_setCell _ _ _).symm, fun k _ hk => Below.heap_setCell _ _ _ k (fun e => hk (by rw [e]))⟩ ?_, hO.2⟩
    rcases hV : vs[i].ownBlock with _ | j
    · exact .inl rfl
    · refine .inr (fun e => ?_)
      injection e with e; subst e
      rcases hO.1.2 with ⟨h0, _⟩ | ⟨g', cap, cur', h0, _, hh, _⟩
      · rw [h0] at hV; simp [Value.ownBlock] at hV
      · rw [h0] at hV
        have e1 : g' = j := by simpa [Value.ownBlock] using hV
        subst e1
        unfold CB at hb
        rw [hb] at hh; injection hh with hh; injection hh with _ h9
        exact ht h9⟩, h.apart⟩
theorem flat_encV (vs : List Value) : vs.flatMap encV = vs := by induction vs with | nil => rfl | cons v vs ih => rw [List.flatMap_cons, ih]; rfl
theorem encV_one (v : Value) : (encV v).length = 1 := rfl
theorem okv_of {w : World} {lo n : Nat} {v : Value} {vs : List Value} (h : w.ownsRow lo 32 1 v n vs) (hn : n = vs.length) : OK encV 1 32 w lo w.heap.size v vs := by
  subst hn; exact ⟨by rw [flat_encV]; exact h, fun j hj => (h.lt j hj).2⟩
theorem okv_row {w : World} {lo hi : Nat} {v : Value} {vs : List Value} (h : OK encV 1 32 w lo hi v vs) : w.ownsRow lo 32 1 v vs.length vs := by
  have := h.1; rwa [flat_encV] at this
theorem rows_one {w : World} {lo hi : Nat} {vs : List Value} {xss : List (List Int)} (h : RowsX w lo hi vs xss) : ∀ u ∈ vs, u.oneCell' = true := by
  intro u hu
  obtain ⟨i, hi', e⟩ := List.mem_iff_getElem.1 hu
  obtain ⟨⟨A, c, e2⟩, _⟩ := h.row i hi' (by rw [← h.len]; exact hi')
  rw [← e, e2]; rfl
/-- One slice in a block. -/
theorem okv_one {w : World} {lo hi g : Nat} {v0 : Value} (h : CB 32 w g [v0]) (hlo : lo ≤ g) (hhi : g < hi) : OK encV 1 32 w lo hi (.slice (some ⟨g, 0, none⟩) 1 1) [v0] :=
  OK.close (enc := encV) (k := 1) (rest := []) encV_one (by simpa [encV] using h) hlo hhi (Nat.le_refl _) (by unfold maxLen; omega) rfl
theorem OX.below {w w' : World} {L B C : Nat} {v : Value} {xss : List (List Int)} (h : OX w L B v xss) (hb : Below C w w') (hC : B ≤ C) : OX w' L B v xss := by
  obtain ⟨vs, hO, hR⟩ := h.parts
  exact OX.of (hO.below hb hC) ⟨hR.len, fun i h1 h2 => ⟨(hR.row i h1 h2).1, (hR.row i h1 h2).2.below hb hC⟩, hR.apart⟩
theorem OX.form {w : World} {L B : Nat} {v : Value} {xss : List (List Int)} (h : OX w L B v xss) : ∃ A c, v = .slice A xss.length c := by
  obtain ⟨vs, hO, hR⟩ := h.parts
  obtain ⟨A, c, e, _⟩ := OK.form (enc := encV) (k := 1) encV_one hO
  exact ⟨A, c, by rw [e, hR.len]⟩
/-- 'append([][]int{v0}, rows...)'. -/
theorem consX {wr w3 : World} {lo b o n c5 : Nat} {v3 : Value} {xs : List Int} {xss : List (List Int)} (hX : OX wr lo wr.heap.size (.slice (some ⟨b, o, none⟩) n c5) xss) (hlo : lo ≤ wr.heap.size) (hw : Below wr.heap.size wr w3) (h3 : OW w3 wr.heap.size w3.heap.size v3 xs) (h0 : 0 < xss.length) :
    ∃ vs, vs.length = n ∧ (w3.alloc (.cells #[v3] 32)).ownsRow lo 32 1 (.slice (some ⟨w3.heap.size, 0, none⟩) 1 1) 1 [v3] ∧
      (∀ j u, vs[j]? = some u → (w3.alloc (.cells #[v3] 32)).cell? ((⟨b, o, none⟩ : Addr).add j) = some u) ∧ (∀ u ∈ vs, u.oneCell' = true) ∧
      (∀ g' cap w5, w5.ownsRow lo 32 1 (.slice (some ⟨g', 0, none⟩) (1 + n) cap) (1 + n) ([v3] ++ vs) → (w3.alloc (.cells #[v3] 32)).grownBy w5 (Value.slice (some ⟨w3.heap.size, 0, none⟩) 1 1).ownBlock →
        OX w5 lo w5.heap.size (.slice (some ⟨g', 0, none⟩) (1 + n) cap) (xs :: xss)) := by
  obtain ⟨vs, hO, hR⟩ := hX.parts
  have hvn : vs.length = n := by
    obtain ⟨A, c, e, _⟩ := OK.form (enc := encV) (k := 1) encV_one hO
    injection e with _ e2 _; exact e2.symm
  have A4 := (Below.refl w3.heap.size w3).alloc (Nat.le_refl _) (.cells #[v3] 32)
  have hcb : CB 32 (w3.alloc (.cells #[v3] 32)) w3.heap.size [v3] := heap_alloc_new w3 _
  have hz3 := hw.size
  have hz4 : (w3.alloc (.cells #[v3] 32)).heap.size = w3.heap.size + 1 := World.size_alloc _ _
  have hlit := okv_one (lo := lo) (hi := w3.heap.size + 1) hcb (by omega) (Nat.lt_succ_self _)
  have hO4 : OK encV 1 32 (w3.alloc (.cells #[v3] 32)) lo wr.heap.size (.slice (some ⟨b, o, none⟩) n c5) vs := (hO.below hw (Nat.le_refl _)).below A4 hz3
  have hR4 : RowsX (w3.alloc (.cells #[v3] 32)) lo wr.heap.size vs xss := ⟨hR.len, fun i h1 h2 => ⟨(hR.row i h1 h2).1, ((hR.row i h1 h2).2.below hw (Nat.le_refl _)).below A4 hz3⟩, hR.apart⟩
  have h34 : OW (w3.alloc (.cells #[v3] 32)) wr.heap.size w3.heap.size v3 xs := h3.below A4 (Nat.le_refl _)
  have hC := hR4.cons h34 hz3 hlo
  refine ⟨vs, hvn, okv_row hlit, fun j u hu => ?_, rows_one hR4, fun g' cap w5 hown hgr => ?_⟩
  · obtain ⟨a, e, h⟩ := (okv_rs hO4).news encV_one (by rw [hR.len]; exact h0)
    injection e with e; subst e
    exact h j u (by rw [flat_encV]; exact hu)
  · have hRf := (hC.more (Nat.le_succ_of_le (Nat.le_refl w3.heap.size))).grown (okv_row hlit) hgr
    have hsz := hgr.size
    exact OX.of (okv_of (by simpa using hown) (by simp [hvn]; omega)) (hRf.more (by omega))
/-- 'append(rows, v0)'. -/
theorem snocX {wr w3 : World} {lo n c5 : Nat} {A : Option Addr} {v3 : Value} {xs : List Int} {xss : List (List Int)} (hX : OX wr lo wr.heap.size (.slice A n c5) xss) (hlo : lo ≤ wr.heap.size) (hw : Below wr.heap.size wr w3) (h3 : OW w3 wr.heap.size w3.heap.size v3 xs) :
    ∃ vs, vs.length = n ∧ (w3.alloc (.cells #[v3] 32)).ownsRow lo 32 1 (.slice A n c5) n vs ∧
      (∀ j u, [v3][j]? = some u → (w3.alloc (.cells #[v3] 32)).cell? ((⟨w3.heap.size, 0, none⟩ : Addr).add j) = some u) ∧ (∀ u ∈ [v3], u.oneCell' = true) ∧
      (∀ g' cap w5, w5.ownsRow lo 32 1 (.slice (some ⟨g', 0, none⟩) (n + 1) cap) (n + 1) (vs ++ [v3]) → (w3.alloc (.cells #[v3] 32)).grownBy w5 (Value.slice A n c5).ownBlock →
        OX w5 lo w5.heap.size (.slice (some ⟨g', 0, none⟩) (n + 1) cap) (xss ++ [xs])) ∧
      (∀ b, (Value.slice A n c5).ownBlock = some b → lo ≤ b) := by
  obtain ⟨vs, hO, hR⟩ := hX.parts
  have hvn : vs.length = n := by
    obtain ⟨A, c, e, _⟩ := OK.form (enc := encV) (k := 1) encV_one hO
    injection e with _ e2 _; exact e2.symm
  have A4 := (Below.refl w3.heap.size w3).alloc (Nat.le_refl _) (.cells #[v3] 32)
  have hcb : CB 32 (w3.alloc (.cells #[v3] 32)) w3.heap.size [v3] := heap_alloc_new w3 _
  have hz3 := hw.size
  have hz4 : (w3.alloc (.cells #[v3] 32)).heap.size = w3.heap.size + 1 := World.size_alloc _ _
  have hO4 : OK encV 1 32 (w3.alloc (.cells #[v3] 32)) lo wr.heap.size (.slice A n c5) vs := (hO.below hw (Nat.le_refl _)).below A4 hz3
  have hR4 : RowsX (w3.alloc (.cells #[v3] 32)) lo wr.heap.size vs xss := ⟨hR.len, fun i h1 h2 => ⟨(hR.row i h1 h2).1, ((hR.row i h1 h2).2.below hw (Nat.le_refl _)).below A4 hz3⟩, hR.apart⟩
  have h34 : OW (w3.alloc (.cells #[v3] 32)) wr.heap.size w3.heap.size v3 xs := h3.below A4 (Nat.le_refl _)
  have hC := hR4.snoc h34 hz3 hlo
  obtain ⟨A3, c3, e3, _⟩ := h3.form
  refine ⟨vs, hvn, by have := okv_row hO4; rwa [hvn] at this, fun j u hu => ?_, fun u hu => by simp at hu; rw [hu, e3]; rfl, fun g' cap w5 hown hgr => ?_, fun b hb => (hO.lo b hb).1⟩
  · rw [addr_add, hcb.cell]; exact hu
  · have hRf := (hC.more (Nat.le_succ_of_le (Nat.le_refl w3.heap.size))).grown (okv_row hO4) hgr
    have hsz := hgr.size
    exact OX.of (okv_of hown (by simp [hvn])) (hRf.more (by omega))
end Go.Proofs.Ythjfedidpjfboaa

/- The sets of live registers: plain, and cdSets of the model. -/
namespace Go.Proofs.Ythjfedidpjfboaa
open Go.RowKit
set_option linter.unusedVariables false
set_option maxRecDepth 100000

def lvX (bs : List Bool) : List In → List (List Int)
  | [] => [mkT bs]
  | x :: cs => mkT (lvS bs (x :: cs)) :: lvX bs cs
theorem lvX_len (bs : List Bool) : ∀ cs : List In, (lvX bs cs).length = cs.length + 1
  | [] => rfl
  | x :: cs => by show (lvX bs cs).length + 1 = _; rw [lvX_len bs cs]; rfl
theorem lvX_head (bs : List Bool) : ∀ cs : List In, ∃ t, lvX bs cs = mkT (lvS bs cs) :: t
  | [] => ⟨[], rfl⟩
  | x :: cs => ⟨lvX bs cs, rfl⟩
theorem lvX_drop (bs : List Bool) {cs : List In} {k : Nat} (h : k < cs.length) : lvX bs (cs.drop k) = mkT (lvS bs (cs.drop k)) :: lvX bs (cs.drop (k + 1)) := by
  rw [List.drop_eq_getElem_cons h]; rfl
theorem lvX_at (bs : List Bool) : ∀ (cs : List In) (k : Nat), k ≤ cs.length → (lvX bs cs)[k]? = some (mkT (lvS bs (cs.drop k)))
  | [], k, h => by obtain rfl : k = 0 := by simpa using h
                   rfl
  | x :: cs, 0, _ => rfl
  | x :: cs, k + 1, h => by show (lvX bs cs)[k]? = _; rw [lvX_at bs cs k (by simpa using h)]; rfl
theorem mkT_len6 (bs : List Bool) : (mkT bs).length ≤ 6 := by
  unfold mkT
  rw [List.length_map]
  exact Nat.le_trans (List.length_filter_le _ _) (by simp)
def SetsGot (w : World) (xss : List (List Int)) (e : Ending) (w' : World) : Prop := ∃ A0 c0, e = .returned (.slice A0 xss.length c0) ∧ OX w' w.heap.size w'.heap.size (.slice A0 xss.length c0) xss ∧ Below w.heap.size w w'

set_option maxHeartbeats 4000000 in
theorem cdSets_any (L B L' B' : Nat) (A A' : Option Addr) (c c' : Nat) (cs : List In) (bs : List Bool) (w : World) (hl40 : cs.length ≤ 40) (hgood : ∀ x ∈ cs, goodIn x = true) (hb6 : bs.length = 6) (hes : RS In.enc 5 w L B A cs) (hB : B ≤ w.heap.size) (hns : IS w L' B' A' (mkT bs)) (hB' : B' ≤ w.heap.size) :
    Calls Try.prog 100 #[.slice A cs.length c, .slice A' (mkT bs).length c'] w (SetsGot w (lvX bs cs)) := by
  obtain ⟨i0, hi', hz0', hz1', hz2'⟩ := info_parts Try.infoII
  have hJ0 := Lib.hid hi'
  have hJ1 := Lib.hid hz0'
  have hJ2 := Lib.hid hz1'
  have hJ3 := Lib.hid hz2'
  clear hi' hz0' hz1' hz2'
  have hm6 := mkT_len6 bs
  have H3 := Lib.hid (l1Own_any L' B' A' c' (mkT bs) w (by omega) hns hB')
  have hE := Lib.hid fun (W : World) (hW : Below w.heap.size w W) => hes.below hW hB
  have hBB := Lib.hid hB
  have hD := Lib.hid fun (k : Nat) (h : k < cs.length) => lvX_drop bs h
  have hS := Lib.hid fun (k : Nat) (h : k < cs.length) => lvS_drop bs h
  have hXl := Lib.hid fun (k : Nat) => lvX_len bs (cs.drop k)
  have hHd := Lib.hid fun (k : Nat) => lvX_head bs (cs.drop k)
  have hSl := Lib.hid fun (k : Nat) => (lvS_len bs (cs.drop k)).trans hb6
  have hX0 := Lib.hid (show lvX bs (cs.drop cs.length) = [mkT bs] by rw [List.drop_length]; rfl)
  have hXn := Lib.hid (show lvX bs (cs.drop 0) = lvX bs cs by rw [List.drop_zero])
  have hG := Lib.hid hgood
  have hw1 : IntKind.i64.wrap ((cs.length : Int) - 1) = (cs.length : Int) - 1 := by rw [IntKind.wrap_i64]; omega
  clear hes hB hns hB' hgood hb6
  go_enter Try.func100, Try.ntmps100
  go_wp2_with (fail)
  refine H3.out.mono ?_
  rintro e w1 ⟨A1, c1, rfl, ho1, hb1⟩
  have A2 := (Below.refl w1.heap.size w1).alloc (Nat.le_refl _) (.cells #[.slice A1 (mkT bs).length c1] 32)
  have hz1 := hb1.size
  have hX2 : Hid (OX (w1.alloc (.cells #[.slice A1 (mkT bs).length c1] 32)) w.heap.size (w1.alloc (.cells #[.slice A1 (mkT bs).length c1] 32)).heap.size (.slice (some ⟨w1.heap.size, 0, none⟩) 1 1) [mkT bs]) := by
    have hcb : CB 32 (w1.alloc (.cells #[.slice A1 (mkT bs).length c1] 32)) w1.heap.size [.slice A1 (mkT bs).length c1] := heap_alloc_new w1 _
    exact OX.of (okv_one hcb hz1 (by simp)) (RowsX.mk1 ((ho1.below A2 (Nat.le_refl _)).more A2.size))
  have hb2 := Lib.hid (hb1.trans (A2.mono hz1))
  clear A2 ho1 hb1
  go_wp2
  generalize w1.alloc (.cells #[.slice A1 (mkT bs).length c1] 32) = W2 at *
  go_loopw [5, 6] (fun v i wr => ∃ r : Nat, r ≤ cs.length ∧ i = .int .i64 ((r : Int) - 1) ∧ OX wr w.heap.size wr.heap.size v (lvX bs (cs.drop r)) ∧ Below w.heap.size w wr) (fun _ i _ => (intOf i + 1).toNat)
  case atStart => exact ⟨cs.length, Nat.le_refl _, rfl, by rw [hX0.out]; exact hX2.out, hb2.out⟩
  case round =>
    obtain ⟨r, hr, rfl, hox, hbel⟩ := hrel
    obtain ⟨A5, c5, rfl⟩ := hox.form
    have hX := Lib.hid hox
    have hBL := Lib.hid hbel
    clear hox
    cases r with
    | zero =>
      have e0 : ((0 : Nat) : Int) - 1 = -1 := by decide
      rw [e0]
      clear hbel
      rw [hXn.out] at hX ⊢
      go_wp2
      go_ret
      exact ⟨A5, c5, rfl, hX.out, hBL.out⟩
    | succ r =>
      have e0 : ((r + 1 : Nat) : Int) - 1 = (r : Int) := by omega
      rw [e0]
      have hrl : r < cs.length := hr
      have hri : (r : Int) < (cs.length : Int) := by omega
      have hr0 : (0 : Int) ≤ (r : Int) := by omega
      obtain ⟨b, o, rfl, ⟨_, hbB⟩, hc⟩ := In.cells (hE.out _ hbel) (by omega)
      obtain ⟨d1, d2, d3, d4, d5⟩ := hc r hrl
      have hg := Lib.hid (hG.out _ (List.getElem_mem hrl))
      have hXr := Lib.hid (hD.out r hrl)
      have hSr := Lib.hid (hS.out r hrl)
      have hl1 := hXl.out (r + 1)
      have hl6 := Lib.hid (hSl.out (r + 1))
      obtain ⟨t, ht⟩ := hHd.out (r + 1)
      have hlt0 : 0 < (lvX bs (cs.drop (r + 1))).length := by omega
      obtain ⟨xb, xo, Ai, ci, rfl, hxb, xc, hI⟩ := XS.at (OX.rs hX.out) hlt0
      have hx0 : (lvX bs (cs.drop (r + 1)))[0] = mkT (lvS bs (cs.drop (r + 1))) := by simp only [ht, List.getElem_cons_zero]
      rw [hx0] at xc hI
      have hln : (cs.drop (r + 1)).length ≤ 40 := by rw [List.length_drop]; omega
      clear hc hbel ht hx0
      have hbits := Lib.hid (lvB_bits hg.out hl6.out)
      generalize cs[r] = x at *
      generalize hLr : lvX bs (cs.drop r) = Lr at *
      have hLR := Lib.hid hLr
      clear hLr
      generalize lvX bs (cs.drop (r + 1)) = Lx at *
      generalize lvS bs (cs.drop (r + 1)) = lv at *
      generalize lvS bs (cs.drop r) = lv0 at *
      have hCB := Lib.hid (cdBefore_any w.heap.size wr.heap.size Ai ci x (mkT lv) wr.drew (mkT_len6 lv) (hI.below (Below.refl wr.heap.size wr).drew (Nat.le_refl _)) (Nat.le_refl _))
      have hXd := Lib.hid (show OX wr.drew w.heap.size wr.drew.heap.size (.slice (some ⟨xb, xo, none⟩) Lx.length c5) Lx from hX.out.below (Below.refl wr.heap.size wr).drew (Nat.le_refl _))
      have hBd := Lib.hid hBL.out.drew
      rw [hbits.out, ← hSr.out] at hCB
      have hLl : Lx.length ≤ 41 := by omega
      obtain ⟨op, d, a, b1, m⟩ := x
      dsimp only at d1 d2 d3 d4 d5 hCB
      have h6l := mkT_len6 lv
      clear hbits hSr hI hg
      have xc0 : wr.cell? ⟨xb, xo, none⟩ = some (.slice Ai (mkT lv).length ci) := xc
      have h0L : (0 : Int) < (Lx.length : Int) := by omega
      clear xc hl1 hln
      go_wp2_with (fail)
      go_region_law (first
        | (go_simp; go_at_call 93; (with_reducible refine hCB.out.mono ?_); rintro e w3 ⟨A3, c3, rfl, ho3, hb3⟩; obtain ⟨vs, hvn, HL, HN, H1, HK⟩ := consX hXd.out hBd.out.size hb3 ho3 hlt0; have hB3 := Lib.hid (hBd.out.trans (hb3.mono hBd.out.size)); have HL := Lib.hid HL; have HN := Lib.hid HN; have H1 := Lib.hid H1; have HK := Lib.hid HK; have hz3 := Lib.hid hB3.out.size; clear ho3 hb3)
        | (refine step_append_lies _ rfl _ _ 48 rfl w.heap.size 32 i0 _ 1 24 Try.underlying48 hJ0.out hJ1.out hJ2.out hJ3.out rfl (by decide) _ 1 _ (by rfl) HL.out ⟨xb, xo, none⟩ Lx.length c5 vs (by rfl) (by omega) HN.out H1.out hlt0 (by unfold maxLen; omega) (by omega) (by have := hz3.out; simp; omega) (w3.heap.size + 1) (by simp) ?_; intro g' cap w5 hown5 hgr5 _ _))
      all_goals
        have hX5 := HK.out g' cap w5 hown5 hgr5
        have hB5 := Lib.hid ((hB3.out.alloc hz3.out (.cells #[.slice A3 (mkT lv0).length c3] 32)).grown hgr5 (by have := hz3.out; simp; omega) (fun k hk => by simp [Value.ownBlock] at hk; have := hz3.out; omega))
        have hX6 := Lib.hid (show OX w5 w.heap.size w5.heap.size (.slice (some ⟨g', 0, none⟩) (1 + Lx.length) cap) Lr from by rw [hXr.out]; exact hX5)
        clear hX5 hown5 hgr5
        go_wp2
        go_roundw
        case rel => exact ⟨r, by omega, rfl, by rw [hLR.out]; exact hX6.out, hB5.out⟩
        case measure => first | (simp [intOf]; done) | (simp [intOf]; omega)
end Go.Proofs.Ythjfedidpjfboaa

/- slices.Reverse of instructions, in place. -/
namespace Go.Proofs.Ythjfedidpjfboaa
open Go.RowKit
set_option linter.unusedVariables false
set_option maxRecDepth 100000

/-- k instructions of each end exchanged. -/
def revK (xs : List In) (k : Nat) : List In := (List.range xs.length).map fun m => if m < k ∨ xs.length ≤ m + k then xs.getD (xs.length - 1 - m) zeroIn else xs.getD m zeroIn
theorem revK_len (xs : List In) (k : Nat) : (revK xs k).length = xs.length := by simp [revK]
theorem revK_get {xs : List In} {k m : Nat} (h : m < (revK xs k).length) : (revK xs k)[m] = if m < k ∨ xs.length ≤ m + k then xs.getD (xs.length - 1 - m) zeroIn else xs.getD m zeroIn := by simp [revK]
theorem revK_zero (xs : List In) : revK xs 0 = xs := by
  refine List.ext_getElem (revK_len _ _) fun m h1 h2 => ?_
  rw [revK_get h1, if_neg (by omega)]; exact getD_in h2
theorem revK_mid {xs : List In} {k m : Nat} (h : m < (revK xs k).length) (h1 : k ≤ m) (h2 : m + k < xs.length) : (revK xs k)[m] = xs.getD m zeroIn := by
  rw [revK_get h, if_neg (by omega)]
theorem revK_succ {xs : List In} {k j : Nat} (hj : j + k + 1 = xs.length) (hk : k < j) : revK xs (k + 1) = ((revK xs k).set k (xs.getD j zeroIn)).set j (xs.getD k zeroIn) := by
  refine List.ext_getElem (by rw [List.length_set, List.length_set, revK_len, revK_len]) fun m h1 h2 => ?_
  have hm : m < xs.length := by rw [revK_len] at h1; exact h1
  rw [revK_get h1, List.getElem_set]
  by_cases e1 : j = m
  · rw [if_pos e1, if_pos (by omega)]; congr 1; omega
  · rw [if_neg e1, List.getElem_set]
    by_cases e2 : k = m
    · rw [if_pos e2, if_pos (by omega)]; congr 1; omega
    · rw [if_neg e2, revK_get]
      by_cases e3 : m < k ∨ xs.length ≤ m + k
      · rw [if_pos (by omega), if_pos e3]
      · rw [if_neg (by omega), if_neg e3]
theorem revK_end {xs : List In} {k : Nat} (h : xs.length ≤ k + k + 1) : revK xs k = xs.reverse := by
  refine List.ext_getElem (by rw [revK_len, List.length_reverse]) fun m h1 h2 => ?_
  have hm : m < xs.length := by rw [revK_len] at h1; exact h1
  rw [revK_get h1, List.getElem_reverse, ← getD_in]
  by_cases e : m < k ∨ xs.length ≤ m + k
  · rw [if_pos e]
  · rw [if_neg e]; congr 1; omega

theorem CB.five {w : World} {g : Nat} {xs : List In} {rest : List Value} (h : CB 90 w g (xs.flatMap In.enc ++ rest)) {i : Nat} (hi : i < xs.length) {x : In} (hx : xs[i] = x) :
    w.cell? ⟨g, i * 5, none⟩ = some (.string x.op) ∧ w.cell? ⟨g, i * 5 + 1, none⟩ = some (.int .i64 x.d) ∧ w.cell? ⟨g, i * 5 + 2, none⟩ = some (.int .i64 x.a) ∧ w.cell? ⟨g, i * 5 + 3, none⟩ = some (.int .i64 x.b) ∧ w.cell? ⟨g, i * 5 + 4, none⟩ = some (.int .i64 x.m) := by
  subst hx
  exact ⟨h.at In.hk i hi 0 _ rfl, h.at In.hk i hi 1 _ rfl, h.at In.hk i hi 2 _ rfl, h.at In.hk i hi 3 _ rfl, h.at In.hk i hi 4 _ rfl⟩

set_option maxHeartbeats 4000000 in
theorem revI_any (g c : Nat) (xs : List In) (rest : List Value) (w : World) (hl : xs.length ≤ 1048576) (hcb : CB 90 w g (xs.flatMap In.enc ++ rest)) :
    Calls Try.prog 99 #[.slice (some ⟨g, 0, none⟩) xs.length c] w fun e w' => e = .returned (.tuple #[]) ∧ CB 90 w' g (xs.reverse.flatMap In.enc ++ rest) ∧ Chg g (g + 1) w w' := by
  have hC0 := Lib.hid hcb
  have hz0 := Lib.hid (revK_zero xs)
  have hS := Lib.hid fun (k j : Nat) (hj : j + k + 1 = xs.length) (hk : k < j) => revK_succ (xs := xs) hj hk
  have hE := Lib.hid fun (k : Nat) (h : xs.length ≤ k + k + 1) => revK_end (xs := xs) h
  have hL := Lib.hid (revK_len xs)
  have hM := Lib.hid fun (k m : Nat) (h : m < (revK xs k).length) (h1 : k ≤ m) (h2 : m + k < xs.length) => revK_mid (xs := xs) h h1 h2
  clear hcb
  generalize revK xs = F at *
  obtain ⟨n, hn⟩ : ∃ n, n = xs.length := ⟨_, rfl⟩
  rw [← hn] at hl hS hE hL hM ⊢
  generalize xs.reverse = Z at *
  have hNN := Lib.hid hn
  clear hn
  have hw1 : IntKind.i64.wrap ((n : Int) - 1) = (n : Int) - 1 := by rw [IntKind.wrap_i64]; omega
  go_enter Try.func99, Try.ntmps99
  go_wp2
  go_loopw [2, 3] (fun i j wr => ∃ (k : Nat) (jz : Int), i = .int .i64 k ∧ j = .int .i64 jz ∧ jz + k + 1 = n ∧ k ≤ n ∧ CB 90 wr g ((F k).flatMap In.enc ++ rest) ∧ Chg g (g + 1) w wr) (fun i _ _ => n - (intOf i).toNat)
  case atStart => exact ⟨0, (n : Int) - 1, rfl, rfl, by omega, Nat.zero_le _, by rw [hz0.out]; exact hC0.out, Chg.refl _ _ _⟩
  case round =>
    obtain ⟨k, jz, rfl, rfl, hjz, hkn, hcb, hch⟩ := hrel
    have hCB := Lib.hid hcb
    have hCh := Lib.hid hch
    have hLk := hL.out k
    clear hch
    by_cases hlt : (k : Int) < jz
    · obtain ⟨j, rfl⟩ := Int.eq_ofNat_of_zero_le (show 0 ≤ jz by omega)
      have hj1 : (j : Int) < (n : Int) := by omega
      have hk1 : (k : Int) < (n : Int) := by omega
      have hj0 : (0 : Int) ≤ (j : Int) := by omega
      have hk0 : (0 : Int) ≤ (k : Int) := by omega
      have hjj : j < (F k).length := by omega
      have hkk : k < (F k).length := by omega
      have hSk := Lib.hid (hS.out k j (by omega) (by omega))
      have ex := Lib.hid (hM.out k k hkk (Nat.le_refl _) (by omega))
      have ey := Lib.hid (hM.out k j hjj (by omega) (by omega))
      generalize xs.getD k zeroIn = x at *
      generalize xs.getD j zeroIn = y at *
      have hJ := Lib.hid hjz
      have hLK := Lib.hid hLk
      obtain ⟨c1, c2, c3, c4, c5⟩ := CB.five hcb hkk ex.out
      obtain ⟨d1, d2, d3, d4, d5⟩ := CB.five hcb hjj ey.out
      have f1 := hcb.frozen (k * 5)
      have f2 := hcb.frozen (k * 5 + 1)
      have f3 := hcb.frozen (k * 5 + 2)
      have f4 := hcb.frozen (k * 5 + 3)
      have f5 := hcb.frozen (k * 5 + 4)
      have g1 := hcb.frozen (j * 5)
      have g2 := hcb.frozen (j * 5 + 1)
      have g3 := hcb.frozen (j * 5 + 2)
      have g4 := hcb.frozen (j * 5 + 3)
      have g5 := hcb.frozen (j * 5 + 4)
      obtain ⟨op, d, a, b1, m⟩ := x
      obtain ⟨op', d', a', b1', m'⟩ := y
      dsimp only at c1 c2 c3 c4 c5 d1 d2 d3 d4 d5
      have hkj := Lib.hid (show k < j by omega)
      have HK := Lib.hid hkk
      have HJ := Lib.hid hjj
      clear hcb hjz hLk hkk hjj ex ey
      generalize hFF : F (k + 1) = FF at *
      have HFF := Lib.hid hFF
      clear hFF
      generalize hFk : F k = Fk at *
      clear hFk
      go_wp2_with (fail)
      go_region_with (fail)
      all_goals
        have h1 := hCB.out.store In.hk k HK.out ⟨op', d', a', b1', m'⟩
        have h2 := h1.store In.hk j (by rw [List.length_set]; exact HJ.out) ⟨op, d, a, b1, m⟩
        have hfin := Lib.hid h2
        have hbf := Lib.hid (chg_setCells (In.enc ⟨op, d, a, b1, m⟩) g (j * 5) (chg_setCells (In.enc ⟨op', d', a', b1', m'⟩) g (k * 5) hCh.out ⟨Nat.le_refl _, Nat.lt_succ_self _⟩) ⟨Nat.le_refl _, Nat.lt_succ_self _⟩)
        clear h1 h2
        simp only [setCells, In.enc, Nat.add_assoc, Nat.reduceAdd] at hfin hbf
        clear c1 c2 c3 c4 c5 d1 d2 d3 d4 d5 f1 f2 f3 f4 f5 g1 g2 g3 g4 g5 hCB hCh
        generalize (World.setCell _ _ _) = W at hfin hbf ⊢
        go_wp2
        go_roundw
        case rel => exact ⟨k + 1, (j : Int) - 1, by go_num, rfl, by have := hJ.out; omega, by omega, by rw [HFF.out, hSk.out]; exact hfin.out, hbf.out.drew⟩
        case measure => simp [intOf]; omega
    · have hEk := Lib.hid (hE.out k (by omega))
      clear hLk
      go_wp2
      go_end0
      exact ⟨rfl, by rw [← hEk.out]; exact hCB.out, hCh.out⟩
theorem revI_nil (c : Nat) (w : World) : Calls Try.prog 99 #[.slice none 0 c] w fun e w' => e = .returned (.tuple #[]) ∧ w' = w := by
  go_enter Try.func99, Try.ntmps99
  go_wp2
  go_loopw [2, 3] (fun i j wr => i = .int .i64 0 ∧ j = .int .i64 (-1) ∧ wr = w) (fun _ _ _ => 0)
  case atStart => exact ⟨rfl, rfl, rfl⟩
  case round =>
    obtain ⟨rfl, rfl, rfl⟩ := hrel
    go_wp2
    go_end0
    exact ⟨rfl, rfl⟩
end Go.Proofs.Ythjfedidpjfboaa

/- The cost of an expression. -/
namespace Go.Proofs.Ythjfedidpjfboaa
open Go.RowKit
set_option linter.unusedVariables false

theorem node4_b {w w2 : World} {a b c d : Value} {t : TypeId} {C : Nat} (hb : Below C (w.alloc (.cells #[a, b, c, d] t)) w2) (hC : w.heap.size < C) : w2.cell? ⟨w.heap.size, 0, none⟩ = some a ∧ w2.cell? ⟨w.heap.size, 1, none⟩ = some b ∧
    w2.cell? ⟨w.heap.size, 2, none⟩ = some c ∧ w2.cell? ⟨w.heap.size, 3, none⟩ = some d := by
  obtain ⟨h1, h2, h3, h4⟩ := node4 w a b c d t
  exact ⟨(hb.cell (by exact hC)).trans h1, (hb.cell (by exact hC)).trans h2, (hb.cell (by exact hC)).trans h3, (hb.cell (by exact hC)).trans h4⟩

def cst (s : ByteArray) : Int := if s.toList = [109,117,108] then 4 else if s.toList = [115,104,108] then 2 else if s.toList = [115,104,114] then 2 else 1
def cstI (s : ByteArray) : Int := if s.toList = [105,110] then 0 else if s.toList = [99,111,110,115,116] then 0 else cst s
def cstN (n : Nd) : Int := if 0 < (parts n).length then cst n.op else 0
theorem cst_bd (s : ByteArray) : 1 ≤ cst s ∧ cst s ≤ 4 := by unfold cst; split; · omega
                                                             split; · omega
                                                             split <;> omega
theorem cstI_bd (s : ByteArray) : 0 ≤ cstI s ∧ cstI s ≤ 4 := by
  have := cst_bd s
  unfold cstI; split; · omega
  split <;> omega
theorem cstN_bd (n : Nd) : 0 ≤ cstN n ∧ cstN n ≤ 4 := by
  have := cst_bd n.op
  unfold cstN; split <;> omega
theorem cstN_eq {n : Nd} (h : isOp n.op = true ∨ isIn n.op = true ∨ isConst n.op = true) : cstI n.op = cstN n := by
  unfold cstI cstN parts
  rcases op_cases n.op with h'|h'|h'|h'|h'|h'|h'|h'|h'|h'|h'|h'|h'|h'|h'
  iterate 14 (· simp [isOne, isTwo, twoOps, h'])
  · exfalso
    obtain ⟨h1, h2, h3, h4, h5, h6, h7, h8, h9, h10, h11, h12, h13, h14⟩ := h'
    have f : ∀ t : List UInt8, (n.op.toList == t) = false → (t == n.op.toList) = false := fun t h => by
      rw [beq_eq_false_iff_ne] at h ⊢; exact Ne.symm h
    simp only [isOp, isIn, isConst, isOne, isTwo, twoOps, List.any_cons, List.any_nil, h1, h2, h3, h4, f _ h5, f _ h6, f _ h7, f _ h8, f _ h9, f _ h10, f _ h11, f _ h12, f _ h13, f _ h14, Bool.or_false, Bool.false_eq_true, or_self] at h
theorem isNode_op {n : Nd} {i : Int} (h : isNode n i = true) : isOp n.op = true ∨ isIn n.op = true ∨ isConst n.op = true := by
  unfold isNode at h
  by_cases h1 : isIn n.op = true
  · exact .inr (.inl h1)
  by_cases h2 : isConst n.op = true
  · exact .inr (.inr h2)
  left
  simp only [Bool.not_eq_true] at h1 h2
  unfold isOp
  cases h3 : isOne n.op
  · cases h4 : isTwo n.op
    · simp [h1, h2, h3, h4] at h
    · rfl
  · rfl
theorem okFrom_mem : ∀ (es : List Nd) (i : Int), okFrom es i = true → ∀ n ∈ es, ∃ j, isNode n j = true := by
  intro es
  induction es with
  | nil => intro i _ n hn; simp at hn
  | cons e t ih =>
    intro i h n hn
    simp only [okFrom, Bool.and_eq_true] at h
    rcases List.mem_cons.mp hn with rfl | hn
    · exact ⟨i, h.1⟩
    · exact ih _ h.2 n hn
theorem good_cst {es : List Nd} (h : good es = true) : ∀ n ∈ es, cstI n.op = cstN n := fun n hn => by
  obtain ⟨j, hj⟩ := okFrom_mem es 0 (good_len h).2.2 n hn
  exact cstN_eq (isNode_op hj)

def sumAt (f : Nd → Int) (es : List Nd) (k : Nat) : Int := ((es.take k).map f).sum
theorem sumAt_succ (f : Nd → Int) {es : List Nd} {k : Nat} (h : k < es.length) : sumAt f es (k + 1) = sumAt f es k + f es[k] := by
  unfold sumAt; rw [List.take_succ_eq_append_getElem h, List.map_append, List.sum_append]; simp
theorem sumAt_bd {f : Nd → Int} (hf : ∀ n, 0 ≤ f n ∧ f n ≤ 4) (es : List Nd) (k : Nat) : 0 ≤ sumAt f es k ∧ sumAt f es k ≤ 4 * k := by
  have H : ∀ l : List Nd, 0 ≤ (l.map f).sum ∧ (l.map f).sum ≤ 4 * l.length := by
    intro l
    induction l with
    | nil => simp
    | cons a t ih => have := hf a; simp only [List.map_cons, List.sum_cons, List.length_cons]; push_cast; omega
  have h2 : (es.take k).length ≤ k := List.length_take_le _ _
  have := H (es.take k)
  unfold sumAt
  omega
theorem sumAt_congr {f g : Nd → Int} {es : List Nd} (h : ∀ n ∈ es, f n = g n) (k : Nat) : sumAt f es k = sumAt g es k := by
  unfold sumAt
  congr 1
  exact List.map_congr_left fun n hn => h n (List.mem_of_mem_take hn)
def cost (es : List Nd) : Int := sumAt cstN es es.length
def costE (es : List Nd) : Int := if good es = true then cost es else 0

end Go.Proofs.Ythjfedidpjfboaa

/- Chapter 5, plain: the tiles at a node. No program is walked here. -/
namespace Go.Proofs.Ythjfedidpjfboaa
open Go.RowKit
set_option linter.unusedVariables false

structure Ti where
  num : Int
  ps : List Int
  ins : List Int
  c : Int

structure Fo where
  num : Int
  ops : List ByteArray
  btw : ByteArray
  fst : Bool
  ws : List Int

def oAdd : ByteArray := ⟨#[97,100,100]⟩
def oSub : ByteArray := ⟨#[115,117,98]⟩
def oMul : ByteArray := ⟨#[109,117,108]⟩
def oAnd : ByteArray := ⟨#[97,110,100]⟩
def oXor : ByteArray := ⟨#[120,111,114]⟩
def oShl : ByteArray := ⟨#[115,104,108]⟩
def oShr : ByteArray := ⟨#[115,104,114]⟩
def oNo : ByteArray := ⟨#[]⟩

def fos : List Fo := [
  ⟨4, [oAdd, oSub, oAnd, oXor], oNo, false, []⟩,
  ⟨5, [oAdd, oAnd, oXor], oNo, true, []⟩,
  ⟨6, [oShl, oShr], oNo, false, [1, 2, 3, 4, 5]⟩,
  ⟨7, [oMul], oNo, false, [2, 4, 8, 16, 32]⟩,
  ⟨8, [oMul], oNo, true, [2, 4, 8, 16, 32]⟩,
  ⟨9, [oAdd], oShl, false, [1, 2, 3]⟩,
  ⟨10, [oAdd], oShl, true, [1, 2, 3]⟩,
  ⟨11, [oAdd], oMul, false, [2, 4, 8]⟩,
  ⟨12, [oAdd], oMul, true, [2, 4, 8]⟩]

def nodeAt (es : List Nd) (k : Int) : Nd := es.getD k.toNat zeroNd
theorem nodeAt_nat {es : List Nd} {k : Nat} (h : k < es.length) : nodeAt es (k : Int) = es[k] := by
  unfold nodeAt; rw [Int.toNat_natCast, List.getD_eq_getElem?_getD, List.getElem?_eq_getElem h]; rfl
def takes (f : Fo) (n : Nd) : Bool := isConst n.op && (f.ws.length == 0 || hasI f.ws n.v)
def fPart (f : Fo) (n : Nd) : Int := if f.fst = true then n.b else n.a
def fTaken (f : Fo) (n : Nd) : Int := if f.fst = true then n.a else n.b
def noBtw (f : Fo) : Bool := f.btw.toList == []
def foTi (es : List Nd) (f : Fo) (n : Nd) : Ti :=
  if noBtw f = true then ⟨f.num, [fPart f n], [fTaken f n], 1⟩
  else ⟨f.num, [fPart f n, (nodeAt es (fTaken f n)).a], [(nodeAt es (fTaken f n)).b, fTaken f n], 1⟩
def foOk (es : List Nd) (f : Fo) (n : Nd) : Bool :=
  hasS f.ops n.op && (if noBtw f = true then takes f (nodeAt es (fTaken f n))
    else (nodeAt es (fTaken f n)).op.toList == f.btw.toList && takes f (nodeAt es (nodeAt es (fTaken f n)).b))
def foO (es : List Nd) (n : Nd) (f : Fo) : Option Ti := if foOk es f n = true then some (foTi es f n) else none

/-- The tile t at a node, if it is told for it. -/
def mt (es : List Nd) (n : Nd) : Nat → Option Ti
  | 0 => if isIn n.op = true then some ⟨0, [], [], 0⟩ else none
  | 1 => if isConst n.op = true then some ⟨1, [], [], 1⟩ else none
  | 2 => if isOne n.op = true then some ⟨2, [n.a], [], 1⟩ else none
  | 3 => if isTwo n.op = true then some ⟨3, [n.a, n.b], [], cst n.op⟩ else none
  | k + 4 => (fos[k]?).bind (foO es n)
def tilesL (es : List Nd) (n : Nd) : List Ti := (List.range 13).filterMap (mt es n)
def tileO (es : List Nd) (n : Nd) (t : Int) : Option Ti := if inR t 0 12 = true then mt es n t.toNat else none

theorem foO_num {es : List Nd} {n : Nd} {f : Fo} {x : Ti} (h : foO es n f = some x) : x.num = f.num := by
  unfold foO at h
  split at h
  · injection h with h; subst h; unfold foTi; split <;> rfl
  · cases h
theorem fos_num : ∀ (k : Nat) (f : Fo), fos[k]? = some f → f.num = (k : Int) + 4 := by
  intro k f h
  have hk : k < 9 := by
    rcases Nat.lt_or_ge k 9 with h9 | h9
    · exact h9
    · rw [List.getElem?_eq_none (by simpa [fos] using h9)] at h; cases h
  match k, hk with
  | 0, _ | 1, _ | 2, _ | 3, _ | 4, _ | 5, _ | 6, _ | 7, _ | 8, _ => simp [fos] at h; subst h; rfl
theorem mt_num {es : List Nd} {n : Nd} {k : Nat} {x : Ti} (h : mt es n k = some x) : x.num = k := by
  match k with
  | 0 => simp only [mt] at h; split at h <;> simp at h; subst h; rfl
  | 1 => simp only [mt] at h; split at h <;> simp at h; subst h; rfl
  | 2 => simp only [mt] at h; split at h <;> simp at h; subst h; rfl
  | 3 => simp only [mt] at h; split at h <;> simp at h; subst h; rfl
  | k + 4 =>
    simp only [mt, Option.bind_eq_some_iff] at h
    obtain ⟨f, hf, h⟩ := h
    rw [foO_num h, fos_num _ _ hf]; omega
theorem tiles_mem {es : List Nd} {n : Nd} {x : Ti} (h : x ∈ tilesL es n) : ∃ k, k < 13 ∧ mt es n k = some x := by
  unfold tilesL at h
  rw [List.mem_filterMap] at h
  obtain ⟨k, hk, h⟩ := h
  exact ⟨k, List.mem_range.1 hk, h⟩
theorem tile_of_mem {es : List Nd} {n : Nd} {x : Ti} {t : Int} (h : x ∈ tilesL es n) (ht : x.num = t) : tileO es n t = some x := by
  obtain ⟨k, hk, h⟩ := tiles_mem h
  have hn := mt_num h
  have e : t = (k : Int) := by rw [← ht, hn]
  subst e
  unfold tileO
  rw [if_pos ((inR_iff _ _ _).2 ⟨by omega, by omega⟩), Int.toNat_natCast, h]
theorem tile_none {es : List Nd} {n : Nd} {t : Int} (h : ∀ x ∈ tilesL es n, x.num ≠ t) : tileO es n t = none := by
  unfold tileO
  split
  · rename_i hr
    obtain ⟨h0, h1⟩ := (inR_iff _ _ _).1 hr
    cases hm : mt es n t.toNat with
    | none => rfl
    | some x =>
      exact absurd (by rw [mt_num hm]; omega) (h x (by unfold tilesL; rw [List.mem_filterMap]; exact ⟨t.toNat, List.mem_range.2 (by omega), hm⟩))
  · rfl

def plainT (n : Nd) : Ti :=
  if isIn n.op = true then ⟨0, [], [], 0⟩ else if isConst n.op = true then ⟨1, [], [], 1⟩ else ⟨1 + (parts n).length, parts n, [], cst n.op⟩

theorem one_cst {s : ByteArray} (h : isOne s = true) : cst s = 1 := by
  have h' : s.toList = [110,111,116] ∨ s.toList = [110,101,103] := by simpa [isOne] using h
  rcases h' with h' | h' <;> simp [cst, h']
theorem range13 {α : Type} (f : Nat → Option α) : (List.range 13).filterMap f = ([0, 1, 2, 3].filterMap f) ++ ([0, 1, 2, 3, 4, 5, 6, 7, 8].filterMap fun k => f (k + 4)) := by
  have : List.range 13 = [0, 1, 2, 3] ++ [0, 1, 2, 3, 4, 5, 6, 7, 8].map (· + 4) := by decide
  rw [this, List.filterMap_append, List.filterMap_map]; rfl
theorem fos_map (es : List Nd) (n : Nd) : ([0, 1, 2, 3, 4, 5, 6, 7, 8].filterMap fun k => mt es n (k + 4)) = fos.filterMap (foO es n) := by
  have : fos = [0, 1, 2, 3, 4, 5, 6, 7, 8].filterMap fun k => fos[k]? := by rfl
  conv => rhs; rw [this, List.filterMap_filterMap]
  rfl
theorem prog_tiles {es : List Nd} {n : Nd} {i : Int} (h : isNode n i = true) : plainT n :: fos.filterMap (foO es n) = tilesL es n := by
  unfold tilesL
  rw [range13, fos_map]
  have : plainT n :: fos.filterMap (foO es n) = [plainT n] ++ fos.filterMap (foO es n) := rfl
  rw [this]
  congr 1
  rcases node_kinds h with ⟨h1, _⟩ | ⟨h1, h2, _⟩ | ⟨h1, h2, h3, h4, _⟩ | ⟨h1, h2, h3, h4, _⟩
  · have e1 : isIn n.op = false := by simp [isIn, h1]
    have e2 : isConst n.op = true := by simp [isConst, h1]
    have e3 : isOne n.op = false := by simp [isOne, h1]
    have e4 : isTwo n.op = false := by simp [isTwo, twoOps, h1]
    simp [plainT, mt, e1, e2, e3, e4]
  · have e1 : isIn n.op = true := by simp [isIn, h1]
    have e2 : isConst n.op = false := by simp [isConst, h1]
    have e3 : isOne n.op = false := by simp [isOne, h1]
    have e4 : isTwo n.op = false := by simp [isTwo, twoOps, h1]
    simp [plainT, mt, e1, e2, e3, e4]
  · have e1 : isIn n.op = false := h2
    have e2 : isConst n.op = false := h1
    simp [plainT, mt, e1, e2, h3, h4, parts, one_cst h3]
  · have e1 : isIn n.op = false := h2
    have e2 : isConst n.op = false := h1
    simp [plainT, mt, e1, e2, h3, h4, parts]

/- What bounds a tile. -/
def TiBd (x : Ti) (i : Int) : Prop := x.ps.length ≤ 2 ∧ x.ins.length ≤ 2 ∧ 0 ≤ x.c ∧ x.c ≤ 4 ∧ ∀ p ∈ x.ps, 0 ≤ p ∧ p < i
theorem two_of_has {f : Fo} (hf : f ∈ fos) {s : ByteArray} (h : hasS f.ops s = true) : isTwo s = true := by
  unfold hasS at h
  rw [List.any_eq_true] at h
  obtain ⟨t, ht, h⟩ := h
  have h' : s.toList = t.toList := by rw [beq_iff_eq] at h; exact h.symm
  have : ∀ f ∈ fos, ∀ t ∈ f.ops, isTwo t = true := by decide +kernel
  have h2 := this f hf t ht
  unfold isTwo at h2 ⊢; rw [h']; exact h2
theorem two_of_btw {f : Fo} (hf : f ∈ fos) (hn : noBtw f = false) : isTwo f.btw = true := by
  have : ∀ f ∈ fos, noBtw f = false → isTwo f.btw = true := by decide +kernel
  exact this f hf hn
theorem two_bd {n : Nd} {i : Int} (h : isNode n i = true) (ht : isTwo n.op = true) : 0 ≤ n.a ∧ n.a < i ∧ 0 ≤ n.b ∧ n.b < i := by
  have hp := isNode_parts h
  have h1 : isOne n.op = false := two_not_one _ ht
  simp [parts, h1, ht] at hp
  omega
end Go.Proofs.Ythjfedidpjfboaa
