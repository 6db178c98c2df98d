/- Texts of this proof, one behind the other: AS, AG, AV, GG, GI, GK. -/
import Derived.Test.YtgcbfiamhpfkhaaZ3
import Derived.Test.YtgcbfiamhpfkhaaZ5
import Derived.WalkKit
import Derived.WalkSpells
import Derived.WalkLawsBesides
import Derived.Lib.Hide
import Derived.Test.YtgcbfiamhpfkhaaZ6
import Derived.Test.YtgcbfiamhpfkhaaZ7
import Derived.Test.YtgcbfiamhpfkhaaZ9
import Derived.Test.YtgcbfiamhpfkhaaZ14
/- BestCover of the program. -/
namespace Go.Proofs.Ytgcbfiamhpfkhaa
open Go.RowKit
set_option linter.unusedVariables false
set_option maxRecDepth 100000

set_option maxHeartbeats 4000000 in
theorem iBestCover_any (L B : Nat) (A : Option Addr) (c : Nat) (es : List Nd) (w : World) (hl : es.length ≤ 1048576) (hes : NS w L B A es) (hB : B ≤ w.heap.size) :
    Calls Try.prog 24 #[.slice A es.length c] w (IntsRes w (bestR es) (treeR es)) := by
  have H := Lib.hid (iIsTree_any L B A c es w hl hes hB)
  have H2 := Lib.hid fun (ht : treeR es = true) (W : World) (hW : Below w.heap.size w W) => leastCosts_any L B A c es W ht (hes.below hW hB) (Nat.le_trans hB hW.size)
  have H3 := Lib.hid fun (ht : treeR es = true) (cb b m : Nat) (f : Int → Int) (W : World) (hW : Below w.heap.size w W) (hm : MP W b m f) (hf : ∀ k : Nat, k < es.length → f (k : Int) = (prTo es es.length).getD k 0) (hcb : BX W cb 69 (.map (some b))) =>
    chosenB_any L B cb b m f A c es W ht (hes.below hW hB) (Nat.le_trans hB hW.size) hm hf hcb
  clear hes hB
  cases ht : treeR es
  · have hR := Lib.hid (show bestR es = [] by unfold bestR; rw [if_neg (by rw [ht]; simp)])
    rw [ht] at H
    clear ht H2 H3
    go_enter Try.func24, Try.ntmps24
    go_wp2_with (go_at_call 57; refine H.out.mono ?_; rintro e w1 ⟨rfl, hb1⟩; have hbh := Lib.hid hb1; clear hb1)
    go_ret2
    rw [hR.out]
    exact ⟨none, 0, rfl, OW.nil _ _ _, hbh.out⟩
  have hR := Lib.hid (show bestR es = chR es.length (chE (kB es) es) by unfold bestR; rw [if_pos ht])
  rw [ht] at H
  have H2' := Lib.hid (H2.out ht)
  have H3' := Lib.hid (H3.out ht)
  have hl24 := tree_len ht
  clear ht H2 H3
  have hcl := Lib.hid (chR_len es.length (chE (kB es) es))
  generalize bestR es = R at *
  generalize chR es.length (chE (kB es) es) = P at *
  generalize prTo es es.length = Q at *
  generalize good es = gd at *
  generalize es.length = n at *
  go_enter Try.func24, Try.ntmps24
  go_wp2_with (first | (go_at_call 57; refine H.out.mono ?_; rintro e w1 ⟨rfl, hb1⟩; have hbh := Lib.hid hb1; clear hb1) | (go_at_call 65; refine (H2'.out _ hbh.out).mono ?_; rintro e w2 ⟨b, m, f, rfl, hmp, hff, hb2⟩; have hMP := Lib.hid hmp; have hFF := Lib.hid hff; have hbi := Lib.hid (hbh.out.trans (hb2.mono hbh.out.size)); clear hb2 hmp hff))
  have ba := (Below.refl w2.heap.size w2).alloc (Nat.le_refl _) (.cells #[.map (some b)] 69)
  refine (H3'.out w2.heap.size b m f _ (hbi.out.trans (ba.mono hbi.out.size)) (hMP.out.next ba) hFF.out (BX.new w2 _ _)).mono ?_
  rintro e w3 ⟨g, rfl, hgw, hib, hb3⟩
  have hO := Lib.hid (OW.ofIB' (lo := w.heap.size) (hi := w3.heap.size) hib (by rw [hcl.out]; omega) (by have := hbi.out.size; have := ba.size; omega) hib.lt)
  have hBe := Lib.hid ((hbi.out.trans (ba.mono hbi.out.size)).trans (hb3.mono (Nat.le_trans hbi.out.size ba.size)))
  clear ba hib hb3 hgw
  go_wp2
  go_ret2
  refine ⟨_, _, ?_, by rw [hR.out]; exact hO.out, hBe.out⟩
  rw [hR.out, hcl.out]; rfl

theorem sBestCover_k (L B : Nat) (A : Option Addr) (c : Nat) (es : List Nd) (w : World) (hl : es.length ≤ 1048576) (hes : RS Nd.enc 4 w L B A es) (hB : B ≤ w.heap.size) :
    Calls Try.prog 23 #[.slice A es.length c] w (ResBestCover (bestR es) (treeR es) w) := sBestCover_any L B A c es w hl hes.ns hB
theorem iBestCover_k (L B : Nat) (A : Option Addr) (c : Nat) (es : List Nd) (w : World) (hl : es.length ≤ 1048576) (hes : RS Nd.enc 4 w L B A es) (hB : B ≤ w.heap.size) :
    Calls Try.prog 24 #[.slice A es.length c] w (ResBestCover (bestR es) (treeR es) w) := iBestCover_any L B A c es w hl hes.ns hB
end Go.Proofs.Ytgcbfiamhpfkhaa

/- Needs: plain. -/
namespace Go.Proofs.Ytgcbfiamhpfkhaa
open Go.RowKit
set_option linter.unusedVariables false

theorem tD_ps (es : List Nd) (nums : List Int) : ∀ i, i < es.length → ∀ p ∈ (tD es nums i).ps, 0 ≤ p ∧ p < (i : Int) := by
  intro i hi p hp
  unfold tD at hp
  cases h : tOf es (i : Int) (nums.getD i 0) with
  | none => rw [h] at hp; simp [noTi] at hp
  | some x => rw [h] at hp; exact (tOf_ps h).1 p hp
theorem tD_num (es : List Nd) (nums : List Int) (i : Nat) : 0 ≤ (tD es nums i).num := by
  unfold tD
  cases h : tOf es (i : Int) (nums.getD i 0) with
  | none => simp [noTi]
  | some x => exact (tOf_ps h).2.2.1
theorem tD_ps2 (es : List Nd) (nums : List Int) (i : Nat) : (tD es nums i).ps.length ≤ 2 := by
  unfold tD
  cases h : tOf es (i : Int) (nums.getD i 0) with
  | none => simp [noTi]
  | some x => exact (tOf_ps h).2.1
theorem cvSt_chSt {es : List Nd} {nums : List Int} : ∀ {j : Nat} {cs : List Int} {out : List Ti}, cvSt es nums j = some (cs, out) → cs = chSt es.length (tD es nums) j
  | 0, cs, out, h => by
    simp only [cvSt, Option.some.injEq, Prod.mk.injEq] at h
    rw [chSt_zero]; exact h.1.symm
  | j + 1, cs, out, h => by
    simp only [cvSt] at h
    rw [Option.bind_eq_some_iff] at h
    obtain ⟨⟨cs0, out0⟩, h0, h1⟩ := h
    have ih := cvSt_chSt h0
    unfold cvNext at h1
    split at h1
    · rename_i hc
      rw [Option.map_eq_some_iff] at h1
      obtain ⟨x, hx0, hx⟩ := h1
      injection hx with e3 e4
      simp only at hc
      rw [chSt_lay (by rw [← ih]; exact hc), ← ih, ← e3]
      have : tD es nums (es.length - 1 - j) = x := by unfold tD; rw [hx0]; rfl
      rw [this]
    · rename_i hc
      injection h1 with h1; injection h1 with e3 e4
      simp only at hc
      rw [chSt_skip (by rw [← ih]; exact hc), ← ih, ← e3]
/-- In a cover, parts have tiles. -/
theorem cover_parts {es : List Nd} {nums : List Int} {out : List Ti} (h : tocR es nums = some out) {i : Nat} (hi : i < es.length) (hn : nums.getD i 0 ≠ -1) : tOf es (i : Int) (nums.getD i 0) = some (tD es nums i) ∧ ∀ p ∈ (tD es nums i).ps, 0 ≤ p ∧ p < (i : Int) ∧ 0 ≤ nums.getD p.toNat 0 := by
  obtain ⟨ht, hl, hc⟩ := tocR_some h
  have hg : good es = true := by unfold treeR at ht; simp only [Bool.and_eq_true] at ht; exact ht.1
  obtain ⟨hl1, hl24, hok⟩ := good_len hg
  have hch := cvSt_chSt hc
  have hch' : nums = chR es.length (tD es nums) := hch
  have hR := chR_get hl1 (tD_ps es nums) i hi
  rw [← hch'] at hR
  have hr : Rch es.length (tD es nums) i := Classical.byContradiction fun hh => hn (hR.2 hh)
  have hv : 0 ≤ nums.getD i 0 := by rw [hR.1 hr]; exact tD_num es nums i
  obtain ⟨x, hx⟩ := (tocR_mst h).2 i hi hv
  refine ⟨by rw [hx]; unfold tD; rw [hx]; rfl, fun p hp => ?_⟩
  have hb := tD_ps es nums i hi p hp
  have hp' := chR_get hl1 (tD_ps es nums) p.toNat (by omega)
  rw [← hch'] at hp'
  exact ⟨hb.1, hb.2, by rw [hp'.1 (hr.part hp)]; exact tD_num es nums _⟩
theorem cover_low {es : List Nd} {nums : List Int} {out : List Ti} (h : tocR es nums = some out) {i : Nat} (hi : i < es.length) : nums.getD i 0 = -1 ∨ (0 ≤ nums.getD i 0 ∧ nums.getD i 0 ≤ 12) := by
  by_cases e : nums.getD i 0 = -1
  · exact .inl e
  · have hx := (cover_parts h hi e).1
    have := tOf_num hx
    have := (tOf_ps hx).2.2
    right; omega
def seB (a b : Int) : Int := max 1 (max a (b + if 0 < a then 1 else 0))
def ndT (nd : List Int) (x : Ti) : Int :=
  if x.num = 0 then 0 else match x.ps with
    | [] => 1
    | [p] => max 1 (nd.getD p.toNat 0)
    | p :: q :: _ => seB (max (nd.getD p.toNat 0) (nd.getD q.toNat 0)) (min (nd.getD p.toNat 0) (nd.getD q.toNat 0))
def ndTo (es : List Nd) (nums : List Int) : Nat → List Int
  | 0 => List.replicate es.length (-1)
  | k + 1 => if nums.getD k 0 = -1 then ndTo es nums k else (ndTo es nums k).set k (ndT (ndTo es nums k) (tD es nums k))
theorem ndTo_zero (es : List Nd) (nums : List Int) : ndTo es nums 0 = List.replicate es.length (-1) := rfl
theorem ndTo_skip {es : List Nd} {nums : List Int} {k : Nat} (h : nums.getD k 0 = -1) : ndTo es nums (k + 1) = ndTo es nums k := by
  show (if _ then _ else _ : List Int) = _; rw [if_pos h]
theorem ndTo_set {es : List Nd} {nums : List Int} {k : Nat} (h : nums.getD k 0 ≠ -1) : ndTo es nums (k + 1) = (ndTo es nums k).set k (ndT (ndTo es nums k) (tD es nums k)) := by
  show (if _ then _ else _ : List Int) = _; rw [if_neg h]
theorem ndTo_len (es : List Nd) (nums : List Int) : ∀ k, (ndTo es nums k).length = es.length
  | 0 => by rw [ndTo_zero]; simp
  | k + 1 => by
    show (if _ then _ else _ : List Int).length = _
    split
    · exact ndTo_len es nums k
    · rw [List.length_set]; exact ndTo_len es nums k
theorem ndT_bd {nd : List Int} {x : Ti} {k : Int} (h0 : 0 ≤ k) (h : ∀ p ∈ x.ps, 0 ≤ nd.getD p.toNat 0 ∧ nd.getD p.toNat 0 ≤ k) : 0 ≤ ndT nd x ∧ ndT nd x ≤ k + 1 := by
  unfold ndT
  split
  · omega
  · split
    · omega
    · rename_i p e; have := h p (by rw [e]; simp); omega
    · rename_i p q l e
      have h1 := h p (by rw [e]; simp)
      have h2 := h q (by rw [e]; simp)
      unfold seB; split <;> omega
theorem ndTo_bd {es : List Nd} {nums : List Int} {out : List Ti} (h : tocR es nums = some out) : ∀ k, k ≤ es.length → ∀ i, i < es.length → (i < k ∧ nums.getD i 0 ≠ -1 → 0 ≤ (ndTo es nums k).getD i 0) ∧ -1 ≤ (ndTo es nums k).getD i 0 ∧ (ndTo es nums k).getD i 0 ≤ k
  | 0, _, i, hi => by
    have e : (List.replicate es.length (-1 : Int)).getD i 0 = -1 := by rw [List.getD_eq_getElem?_getD, List.getElem?_replicate, if_pos hi]; rfl
    rw [ndTo_zero, e]
    exact ⟨fun h => by omega, by omega, by omega⟩
  | k + 1, hk, i, hi => by
    have ih := ndTo_bd h k (by omega)
    by_cases e : nums.getD k 0 = -1
    · rw [ndTo_skip e]
      have := ih i hi
      refine ⟨fun hh => this.1 ⟨?_, hh.2⟩, by omega, by omega⟩
      rcases Nat.lt_or_ge i k with h' | h'
      · exact h'
      · obtain rfl : i = k := by omega
        exact absurd e hh.2
    · rw [ndTo_set e, getDI_set _ _ _ (by rw [ndTo_len]; omega)]
      have hp := (cover_parts h (by omega : k < es.length) e).2
      have hb := ndT_bd (nd := ndTo es nums k) (x := tD es nums k) (k := (k : Int)) (by omega) (fun p hpp => by
        have h1 := hp p hpp
        have h2 := ih p.toNat (by omega)
        exact ⟨h2.1 ⟨by omega, by omega⟩, h2.2.2⟩)
      by_cases e2 : k = i
      · rw [if_pos e2]; exact ⟨fun _ => hb.1, by omega, by omega⟩
      · rw [if_neg e2]
        have := ih i hi
        exact ⟨fun hh => this.1 ⟨by omega, hh.2⟩, by omega, by omega⟩
def needsR (es : List Nd) (nums : List Int) : List Int := if (tocR es nums).isSome = true then ndTo es nums es.length else []
end Go.Proofs.Ytgcbfiamhpfkhaa

/- Chosen covers are covers: plain. -/
namespace Go.Proofs.Ytgcbfiamhpfkhaa
open Go.RowKit
set_option linter.unusedVariables false

theorem tOf_tile {es : List Nd} (ht : treeR es = true) {k : Nat} (hk : k < es.length) {x : Ti} (hx : x ∈ tsN es k) : tOf es (k : Int) x.num = some x := by
  obtain ⟨n, hn, he, _, hm⟩ := tsN_c hk hx
  have h1 : tAt es (k : Int) = true := by
    unfold tAt; rw [ht]; simp only [Bool.true_and]; rw [inR_iff]; omega
  unfold tOf
  rw [if_pos h1, nodeAt_nat hk]
  unfold tileO
  rw [if_pos (by rw [inR_iff]; omega), he, Int.toNat_natCast]; exact hm
theorem cvSt_chosen {es : List Nd} (ht : treeR es = true) (hl1 : 1 ≤ es.length) {ch : Nat → Ti} (hc : ∀ k, k < es.length → ch k ∈ tsN es k) (hp : ∀ i, i < es.length → ∀ p ∈ (ch i).ps, 0 ≤ p ∧ p < (i : Int)) : ∀ j, j ≤ es.length → ∃ out, cvSt es (chR es.length ch) j = some (chSt es.length ch j, out)
  | 0, _ => ⟨[], rfl⟩
  | j + 1, hj => by
    obtain ⟨out, ih⟩ := cvSt_chosen ht hl1 hc hp j (by omega)
    have hI := chSt_inv hl1 hp j (by omega)
    by_cases h : (chSt es.length ch j).getD (es.length - 1 - j) 0 = -2
    · have hk : es.length - 1 - j < es.length := by omega
      have hr : Rch es.length ch (es.length - 1 - j) := by
        refine Classical.byContradiction fun hn => ?_
        have h2 := (hI.lo (es.length - 1 - j) (by omega)).2
        by_cases h3 : es.length - 1 - j = es.length - 1 ∨ ∃ q, es.length - j ≤ q ∧ Rch es.length ch q ∧ ∃ p ∈ (ch q).ps, p.toNat = es.length - 1 - j
        · rcases h3 with h3 | ⟨q, _, hq, p, hpq, e⟩
          · rw [h3] at hn; exact hn (Rch.root _ _)
          · exact hn (by rw [← e]; exact hq.part hpq)
        · have := h2 h3; omega
      have hnum := (chR_get hl1 hp _ hk).1 hr
      have ht2 : tOf es ((es.length - 1 - j : Nat) : Int) ((chR es.length ch).getD (es.length - 1 - j) 0) = some (ch (es.length - 1 - j)) := by
        rw [hnum]; exact tOf_tile ht hk (hc _ hk)
      exact ⟨_, by rw [cvSt_lay ih h ht2, chSt_lay h]⟩
    · exact ⟨out, by rw [cvSt_skip ih h, chSt_skip h]⟩
theorem tocR_chosen {es : List Nd} (ht : treeR es = true) (K : Ti → Int) : ∃ out, tocR es (chR es.length (chE K es)) = some out := by
  have hg : good es = true := by unfold treeR at ht; simp only [Bool.and_eq_true] at ht; exact ht.1
  obtain ⟨hl1, hl24, hok⟩ := good_len hg
  obtain ⟨out, h⟩ := cvSt_chosen ht hl1 (fun k hk => chE_mem hok K hk) (chE_ps hok K) es.length (Nat.le_refl _)
  refine ⟨out, ?_⟩
  unfold tocR
  rw [if_pos ⟨ht, chR_len _ _⟩, h]
  simp only
  exact if_pos rfl
theorem tocR_best {es : List Nd} (ht : treeR es = true) : ∃ out, tocR es (bestR es) = some out := by unfold bestR; rw [if_pos ht]; exact tocR_chosen ht _
theorem tocR_large {es : List Nd} (ht : treeR es = true) : ∃ out, tocR es (largeR es) = some out := by unfold largeR; rw [if_pos ht]; exact tocR_chosen ht _
theorem tocR_nil {es : List Nd} (ht : treeR es = false) (nums : List Int) : tocR es nums = none := by unfold tocR; rw [if_neg (by rw [ht]; simp)]
/-- What is saved. -/
def savedR (es : List Nd) : Int := if treeR es = true then wrap64 (ccostR es (largeR es) - ccostR es (bestR es)) else 0
end Go.Proofs.Ytgcbfiamhpfkhaa

/- tilesOfCover of the program, at all arguments. -/
namespace Go.Proofs.Ytgcbfiamhpfkhaa
open Go.RowKit
set_option linter.unusedVariables false

set_option maxHeartbeats 4000000 in
theorem tilesOfCover_not (L B : Nat) (A A' : Option Addr) (c c' n : Nat) (es : List Nd) (w : World) (hl : es.length ≤ 1048576) (hn : n ≤ 1048576) (h : ¬ (treeR es = true ∧ n = es.length)) (hes : NS w L B A es) (hB : B ≤ w.heap.size) :
    Calls Try.prog 139 #[.slice A es.length c, .slice A' n c'] w (CoverGot w none) := by
  have HT := Lib.hid fun (W : World) (hW : Below w.heap.size w W) => iIsTree_any L B A c es W hl (hes.below hW hB) (Nat.le_trans hB hW.size)
  go_enter Try.func139, Try.ntmps139
  go_wp2_with (fail)
  obtain ⟨W4, hW4⟩ : ∃ W4, W4 = ((((w.alloc (.cells #[.slice A es.length c] 27)).alloc (.cells #[.slice A' n c'] 23)).alloc (.cells #[.slice none 0 0] 74)).alloc (.cells #[.bool false] 4)) := ⟨_, rfl⟩
  have z1 := World.size_alloc w (.cells #[.slice A es.length c] 27)
  have z2 := World.size_alloc (w.alloc (.cells #[.slice A es.length c] 27)) (.cells #[.slice A' n c'] 23)
  have z3 := World.size_alloc ((w.alloc (.cells #[.slice A es.length c] 27)).alloc (.cells #[.slice A' n c'] 23)) (.cells #[.slice none 0 0] 74)
  have z4 : W4.heap.size = w.heap.size + 1 + 1 + 1 + 1 := by rw [hW4, World.size_alloc, z3, z2, z1]
  have B4 : Below w.heap.size w W4 := by rw [hW4]; exact ((((Below.refl _ w).alloc (Nat.le_refl _) _).alloc (by omega) _).alloc (by omega) _).alloc (by omega) _
  have k2 : BX W4 w.heap.size 27 (.slice A es.length c) := by rw [hW4]; exact (((BX.new w _ _).al _).al _).al _
  have k3 : BX W4 (w.heap.size + 1) 23 (.slice A' n c') := by
    rw [hW4]; have h := ((BX.new (w.alloc (.cells #[.slice A es.length c] 27)) 23 (.slice A' n c')).al (.cells #[.slice none 0 0] 74)).al (.cells #[.bool false] 4)
    rw [z1] at h; exact h
  have k4 : BX W4 (w.heap.size + 1 + 1) 74 (.slice none 0 0) := by
    rw [hW4]; have h := (BX.new ((w.alloc (.cells #[.slice A es.length c] 27)).alloc (.cells #[.slice A' n c'] 23)) 74 (.slice none 0 0)).al (.cells #[.bool false] 4)
    rw [z2, z1] at h; exact h
  have k5 : BX W4 (w.heap.size + 1 + 1 + 1) 4 (.bool false) := by
    rw [hW4]; have h := BX.new (((w.alloc (.cells #[.slice A es.length c] 27)).alloc (.cells #[.slice A' n c'] 23)).alloc (.cells #[.slice none 0 0] 74)) 4 (.bool false)
    rw [z3, z2, z1] at h; exact h
  rw [← hW4]
  clear hW4 z1 z2 z3
  refine (HT.out _ B4).mono ?_
  rintro e W5 ⟨rfl, hb⟩
  have B5 := Lib.hid (B4.trans (hb.mono B4.size))
  have P4 := Lib.hid (k4.next hb)
  have P5 := Lib.hid (k5.next hb)
  have m2 := (k2.next hb).cell
  have m3 := (k3.next hb).cell
  have m4 := P4.out.cell
  have m5 := P5.out.cell
  have f4 := P4.out.fz
  have f5 := P5.out.fz
  clear B4 k2 k3 k4 k5 hb HT
  by_cases ht : treeR es = true
  · have hne : ¬ n = es.length := fun e => h ⟨ht, e⟩
    have hne2 : ((n : Int) != (es.length : Int)) = true := by simp; omega
    rw [ht]
    go_wp2
    all_goals
      have c4 := ((P4.out.set (.slice none 0 0)).other (q := w.heap.size + 1 + 1 + 1) 0 (.bool false) (by omega)).cell
      have c5 := ((P5.out.other (q := w.heap.size + 1 + 1) 0 (.slice none 0 0) (by omega)).set (.bool false)).cell
      refine ⟨rfl, _, (by simp [results, Try.f139, go_sem, c4, c5]; rfl), ?_⟩
      refine ⟨none, 0, [], rfl, fun h => absurd h (by simp), ⟨rfl, fun k h1 _ => absurd h1 (Nat.not_lt_zero _)⟩, ?_⟩
      exact (B5.out.setCell (p := ⟨w.heap.size + 1 + 1, 0, none⟩) (show w.heap.size ≤ w.heap.size + 1 + 1 by omega) _).setCell (p := ⟨w.heap.size + 1 + 1 + 1, 0, none⟩) (show w.heap.size ≤ w.heap.size + 1 + 1 + 1 by omega) _
  · have ht' : treeR es = false := by simpa using ht
    rw [ht']
    go_wp2
    all_goals
      have c4 := ((P4.out.set (.slice none 0 0)).other (q := w.heap.size + 1 + 1 + 1) 0 (.bool false) (by omega)).cell
      have c5 := ((P5.out.other (q := w.heap.size + 1 + 1) 0 (.slice none 0 0) (by omega)).set (.bool false)).cell
      refine ⟨rfl, _, (by simp [results, Try.f139, go_sem, c4, c5]; rfl), ?_⟩
      refine ⟨none, 0, [], rfl, fun h => absurd h (by simp), ⟨rfl, fun k h1 _ => absurd h1 (Nat.not_lt_zero _)⟩, ?_⟩
      exact (B5.out.setCell (p := ⟨w.heap.size + 1 + 1, 0, none⟩) (show w.heap.size ≤ w.heap.size + 1 + 1 by omega) _).setCell (p := ⟨w.heap.size + 1 + 1 + 1, 0, none⟩) (show w.heap.size ≤ w.heap.size + 1 + 1 + 1 by omega) _

/-- tilesOfCover at all arguments. -/
theorem tilesOfCover_any (L B L' B' : Nat) (A A' : Option Addr) (c c' : Nat) (es : List Nd) (nums : List Int) (w : World) (hl : es.length ≤ 1048576) (hn : nums.length ≤ 1048576) (hes : NS w L B A es) (hB : B ≤ w.heap.size) (hns : IS w L' B' A' nums) (hB' : B' ≤ w.heap.size) :
    Calls Try.prog 139 #[.slice A es.length c, .slice A' nums.length c'] w (CoverGot w (tocR es nums)) := by
  by_cases h : treeR es = true ∧ nums.length = es.length
  · have := tilesOfCover_go L B L' B' A A' c c' es nums w h.1 h.2 hes hB hns hB'
    rw [h.2]; exact this
  · have e : tocR es nums = none := by unfold tocR; rw [if_neg h]
    rw [e]
    exact tilesOfCover_not L B A A' c c' nums.length es w hl hn h hes hB
end Go.Proofs.Ytgcbfiamhpfkhaa

/- IsCover, CoverCost, TileUses of the program. -/
namespace Go.Proofs.Ytgcbfiamhpfkhaa
open Go.RowKit
set_option linter.unusedVariables false
set_option maxRecDepth 100000

set_option maxHeartbeats 4000000 in
theorem iIsCover_any (L B L' B' : Nat) (A A' : Option Addr) (c c' : Nat) (es : List Nd) (nums : List Int) (w : World) (hl : es.length ≤ 1048576) (hn : nums.length ≤ 1048576) (hes : NS w L B A es) (hB : B ≤ w.heap.size) (hns : IS w L' B' A' nums) (hB' : B' ≤ w.heap.size) :
    Calls Try.prog 135 #[.slice A es.length c, .slice A' nums.length c'] w fun e w' => e = .returned (.tuple #[.bool (tocR es nums).isSome, .bool (treeR es)]) ∧ Below w.heap.size w w' := by
  have H := Lib.hid (iIsTree_any L B A c es w hl hes hB)
  have H2 := Lib.hid fun (W : World) (hW : Below w.heap.size w W) => tilesOfCover_any L B L' B' A A' c c' es nums W hl hn (hes.below hW hB) (Nat.le_trans hB hW.size) (hns.below hW hB') (Nat.le_trans hB' hW.size)
  clear hes hB hns hB'
  cases ht : treeR es
  · have hR : Hid (tocR es nums = none) := by unfold Hid tocR; rw [if_neg (by rw [ht]; simp)]
    rw [ht] at H
    clear ht H2
    go_enter Try.func135, Try.ntmps135
    go_wp2_with (go_at_call 57; refine H.out.mono ?_; rintro e w1 ⟨rfl, hb1⟩; have hbh := Lib.hid hb1; clear hb1)
    go_ret2
    exact ⟨by rw [hR.out]; rfl, hbh.out⟩
  rw [ht] at H
  clear ht
  generalize tocR es nums = o at *
  go_enter Try.func135, Try.ntmps135
  go_wp2_with (first | (go_at_call 57; refine H.out.mono ?_; rintro e w1 ⟨rfl, hb1⟩; have hbh := Lib.hid hb1; clear hb1) | (go_at_call 139; refine (H2.out _ hbh.out).mono ?_; rintro e w2 ⟨PA, pc, rs, rfl, _, _, hb2⟩; have hbi := Lib.hid (hbh.out.trans (hb2.mono hbh.out.size)); clear hb2))
  go_ret2
  exact ⟨rfl, hbi.out⟩

set_option maxHeartbeats 4000000 in
theorem iCoverCost_any (L B L' B' : Nat) (A A' : Option Addr) (c c' : Nat) (es : List Nd) (nums : List Int) (w : World) (hl : es.length ≤ 1048576) (hn : nums.length ≤ 1048576) (hes : NS w L B A es) (hB : B ≤ w.heap.size) (hns : IS w L' B' A' nums) (hB' : B' ≤ w.heap.size) :
    Calls Try.prog 81 #[.slice A es.length c, .slice A' nums.length c'] w (IntRes w (ccostR es nums) (tocR es nums).isSome) := by
  have H2 := Lib.hid (tilesOfCover_any L B L' B' A A' c c' es nums w hl hn hes hB hns hB')
  clear hes hB hns hB'
  have hbd := Lib.hid (tocR_bd es nums)
  have hlen := Lib.hid (tocR_len' es nums)
  have hR : Hid (ccostR es nums = sumK ((tocR es nums).getD [])) := rfl
  generalize ccostR es nums = R at *
  generalize (tocR es nums) = o at *
  go_enter Try.func81, Try.ntmps81
  go_wp2_with (fail)
  refine H2.out.mono ?_
  rintro e w1 ⟨TA, tc, rs, rfl, hrs, hall, hb1⟩
  have hRS := Lib.hid hrs
  have hAL := Lib.hid hall
  have hBL := Lib.hid hb1
  clear hrs hall hb1 H2
  generalize o.isSome = ok at *
  generalize o.getD [] = ts at *
  go_wp2_with (fail)
  go_loopw [8, 19] (fun q i wr => ∃ k : Nat, k ≤ ts.length ∧ i = .int .i64 k ∧ q = .int .i64 (sumK (ts.take k)) ∧ Below w1.heap.size w1 wr) (fun _ i _ => ts.length - (intOf i).toNat)
  case atStart => exact ⟨0, Nat.zero_le _, rfl, rfl, Below.refl _ _⟩
  case round =>
    obtain ⟨k, hk, rfl, rfl, hbel⟩ := hrel
    have hBJ := Lib.hid hbel
    by_cases hlt : k < ts.length
    · have hki : (k : Int) < (ts.length : Int) := by omega
      have hlth := Lib.hid hlt
      have h24 := hlen.out
      have hkr : k < rs.length := by rw [hAL.out.1]; exact hlt
      have hok4 := (hAL.out.2 k hkr hlt).below hbel (Nat.le_refl _)
      obtain ⟨tb, to', rfl, ⟨_, htb⟩, hcc⟩ := (hRS.out.below hbel (Nat.le_refl _)) (by omega)
      have x1 := hcc k hkr 0 _ rfl
      have x2 := hcc k hkr 1 _ rfl
      have x3 := hcc k hkr 2 _ rfl
      have x4 := hcc k hkr 3 _ rfl
      simp only [Nat.add_zero] at x1
      have hS := sumK_take hbd.out hlen.out hlt
      generalize rs[k] = r at *
      obtain ⟨PA, pc, QA, qc, rfl, _, _⟩ := hok4.form
      dsimp only at x1 x2 x3 x4
      clear hcc hok4 hbel
      generalize ts[k] = x at *
      obtain ⟨xn, ps, ins, xc⟩ := x
      dsimp only at x1 x2 x3 x4 hS
      unfold TiB at hS
      dsimp only at hS
      have hS2 := Lib.hid hS.1
      have hw : IntKind.i64.wrap (sumK (ts.take k) + xc) = sumK (ts.take k) + xc := by rw [IntKind.wrap_i64]; omega
      generalize sumK (ts.take k) = s at *
      clear hS
      have hbx := Lib.hid (hBJ.out.alloc hBJ.out.size (.cells #[.int .i64 xn, .slice PA ps.length pc, .slice QA ins.length qc, .int .i64 xc] 77))
      go_wp2
      go_roundw
      case rel => exact ⟨k + 1, hlth.out, by go_num, by rw [hS2.out], hbx.out⟩
      case measure => have := hlth.out; simp [intOf]; omega
    · obtain rfl : k = ts.length := by omega
      have hB3 := Lib.hid (hBL.out.trans (hbel.mono hBL.out.size))
      rw [List.take_length] at *
      go_wp2
      go_ret2
      exact ⟨by rw [hR.out]; rfl, hB3.out⟩

theorem len13 : usesL [] = zeros 13 := usesL_nil
end Go.Proofs.Ytgcbfiamhpfkhaa

/- The model's cover, walked. -/
namespace Go.Proofs.Ytgcbfiamhpfkhaa
open Go.RowKit
set_option linter.unusedVariables false
set_option maxRecDepth 100000

def NeedGot (w : World) (n : Nat) (o : Option (List Int × List Ti)) (e : Ending) (w' : World) : Prop :=
  match o with
  | some s => ∃ g, e = .returned (.tuple #[.slice (some ⟨g, 0, none⟩) n n, .bool true]) ∧ BB w' g (ndB s.1) ∧ w.heap.size ≤ g ∧ Below w.heap.size w w'
  | none => e = .returned (.tuple #[.slice none 0 0, .bool false]) ∧ Below w.heap.size w w'

theorem BB.below {w w' : World} {g C : Nat} {bs : List Bool} (h : BB w g bs) (hb : Below C w w') (hg : g < C) : BB w' g bs := (hb.block g hg).trans h
theorem tOf_at {es : List Nd} (ht : treeR es = true) {k : Nat} (hk : k < es.length) {t : Nat} (h : t < 13) : tOf es (k : Int) (t : Int) = mt es es[k] t := by
  have hi : inR (k : Int) 0 ((es.length : Int) - 1) = true := (inR_iff _ _ _).2 (by omega)
  have hj : inR (t : Int) 0 12 = true := (inR_iff _ _ _).2 (by omega)
  unfold tOf tAt tileO
  rw [ht, hi, hj, nodeAt_nat hk, Int.toNat_natCast]; rfl
theorem tOf_out {es : List Nd} {i t : Int} (h : inR t 0 12 = false) : tOf es i t = none := by
  have := tok_no (es := es) (i := i) (t := t) (.inr (.inr h))
  unfold tokR at this
  cases ho : tOf es i t with
  | none => rfl
  | some x => rw [ho] at this; cases this
theorem bb_start (w : World) (n : Nat) : BB (w.alloc (.cells ((boolCells (List.replicate n false)).setIfInBounds (n - 1) (.bool true)) 4)) w.heap.size (ndB (opn n)) := by
  have e : (boolCells (List.replicate n false)).setIfInBounds (n - 1) (.bool true) = boolCells (ndB (opn n)) := by unfold boolCells; rw [ndB_opn, List.map_set, List.setIfInBounds_toArray]
  rw [e]
  exact heap_alloc_new w _
set_option maxHeartbeats 8000000 in
theorem cvNeeded_any (L B L' B' : Nat) (A A' : Option Addr) (c c' : Nat) (es : List Nd) (nums : List Int) (w : World) (ht : treeR es = true) (hn : nums.length = es.length) (hes : NS w L B A es) (hB : B ≤ w.heap.size) (hns : IS w L' B' A' nums) (hB' : B' ≤ w.heap.size) :
    Calls Try.prog 166 #[.slice A es.length c, .slice A' es.length c'] w (NeedGot w es.length (cvSt es nums es.length)) := by
  have hg : good es = true := by unfold treeR at ht; simp only [Bool.and_eq_true] at ht; exact ht.1
  obtain ⟨hl1, hl24, hok⟩ := good_len hg
  have H3 := Lib.hid fun (k : Nat) (hk : k < es.length) (t : Nat) (htt : t < 13) (W : World) (hW : Below w.heap.size w W) => (show Calls Try.prog 73 #[.slice A es.length c, .int .i64 (k : Int), .int .i64 (t : Int)] W (TileM W (tOf es (k : Int) (t : Int))) from by rw [tOf_at ht hk htt]; exact cvTile_n L B A c es k hk t htt W (hes.below hW hB) (Nat.le_trans hB hW.size) hok)
  have HN := Lib.hid fun (W : World) (hW : Below w.heap.size w W) => hns.below hW hB'
  have hBn := Lib.hid hB'
  have hskip := Lib.hid fun j cs out => @cvSt_skip es nums j cs out
  have hlay := Lib.hid fun j cs out x => @cvSt_lay es nums j cs out x
  have hfail := Lib.hid fun j cs out => @cvSt_fail es nums j cs out
  have hnone := Lib.hid fun j => @cvSt_none es nums j
  have hlenS := Lib.hid fun j cs out => @cvSt_len es nums j cs out
  have hinv := Lib.hid fun j cs out (hj : j ≤ es.length) (h : cvSt es nums j = some (cs, out)) => (cvSt_inv hj h).lo
  have hout := Lib.hid fun (k : Nat) (t : Int) => @tOf_out es (k : Int) t
  have hps := Lib.hid fun (k : Nat) (t : Int) (x : Ti) => @tOf_ps es k t x
  have hSt0 := Lib.hid (show cvSt es nums 0 = some (opn es.length, []) from rfl)
  have hmk := run_make_bools es.length (by omega)
  have b1 := Lib.hid ((Below.refl w.heap.size w).alloc (Nat.le_refl _) (.cells ((boolCells (List.replicate es.length false)).setIfInBounds (es.length - 1) (.bool true)) 4))
  have hT0 : Hid (BB (w.alloc (.cells (boolCells (List.replicate es.length false)) 4)) w.heap.size (List.replicate es.length false)) := heap_alloc_new w _
  have hT1 := Lib.hid (bb_start w es.length)
  have hw1 : IntKind.i64.wrap ((es.length : Int) - 1) = (es.length : Int) - 1 := by rw [IntKind.wrap_i64]; omega
  have hm1 : ((es.length : Int) - 1) = ((es.length - 1 : Nat) : Int) := by omega
  have hm2 : ((es.length - 1 : Nat) : Int) < (es.length : Int) := by omega
  have hm0 : (0 : Int) ≤ ((es.length - 1 : Nat) : Int) := by omega
  have hnl := Lib.hid hn
  clear hes hB hns hB' hg ht hok hn
  have y0 := hT0.out.cell (es.length - 1) (by simp; omega)
  have f0 := hT0.out.frozen (es.length - 1)
  generalize cvSt es nums = CS at *
  generalize tOf es = TO at *
  generalize es.length = n at *
  go_enter Try.func166, Try.ntmps166
  go_wp2_with (fail)
  obtain ⟨g, hg0⟩ : ∃ g, g = w.heap.size := ⟨_, rfl⟩
  rw [← hg0] at hT1 ⊢
  have hgw := Lib.hid (show w.heap.size ≤ g by omega)
  clear hg0 y0 f0 hT0 hmk
  generalize w.alloc (.cells ((boolCells (List.replicate n false)).setIfInBounds (n - 1) (.bool true)) 4) = W1 at *
  go_loopw [7] (fun i wr => ∃ (j : Nat) (cs : List Int) (out : List Ti), j ≤ n ∧ i = .int .i64 ((n : Int) - 1 - (j : Int)) ∧ CS j = some (cs, out) ∧ BB wr g (ndB cs) ∧ Below w.heap.size w wr) (fun i _ => (intOf i + 1).toNat)
  case atStart => exact ⟨0, _, _, Nat.zero_le _, by rw [← hm1]; simp, hSt0.out, hT1.out, b1.out⟩
  case round =>
    obtain ⟨j, cs, out, hj, rfl, hst, hib, hbel⟩ := hrel
    have hIB := Lib.hid hib
    have hBL := Lib.hid hbel
    have hgl := hib.lt
    have hlen := (hlenS.out j cs out hst).1
    clear hw1 hm1 hm2 hm0
    by_cases hlt : j < n
    · obtain ⟨k, hk⟩ : ∃ k, k = n - 1 - j := ⟨_, rfl⟩
      have e1 : (n : Int) - 1 - (j : Int) = (k : Int) := by omega
      have e2 := Lib.hid (show (k : Int) - 1 = (n : Int) - 1 - ((j + 1 : Nat) : Int) by omega)
      rw [e1]
      have hkn : k < n := by omega
      have hk0 : (0 : Int) ≤ (k : Int) := by omega
      have hki : (k : Int) < (n : Int) := by omega
      have hwd : IntKind.i64.wrap ((k : Int) - 1) = (k : Int) - 1 := by rw [IntKind.wrap_i64]; omega
      have y := hib.cell k (by rw [ndB_len]; omega)
      rw [ndB_get (by omega)] at y
      have hS1 := Lib.hid (hskip.out j cs out hst)
      have hS2 := Lib.hid (fun x => hlay.out j cs out x hst)
      have hS3 := Lib.hid (hfail.out j cs out hst)
      rw [← hk] at hS1 hS2 hS3
      have hjh := Lib.hid hlt
      rcases hinv.out j cs out hj hst k (by omega) with hc | hc
      · rw [hc, show ((-1 : Int) != -1) = false from rfl] at y
        have hN := Lib.hid (hS1.out (by rw [hc]; decide))
        clear hst hib hbel hc hk e1 hinv hskip hlay hfail hlenS
        go_wp2
        have := hjh.out
        exact ⟨⟨j + 1, cs, out, hjh.out, by rw [e2.out], hN.out, hIB.out, hBL.out⟩, by simp [intOf] <;> omega⟩
      · rw [hc, show ((-2 : Int) != -1) = true from rfl] at y
        obtain ⟨nb, no, rfl, ⟨_, hnb⟩, hcc⟩ := HN.out wr hbel (by rw [hnl.out]; omega)
        have x1 := hcc k (by rw [hnl.out]; exact hkn)
        rw [show nums[k]'(by rw [hnl.out]; exact hkn) = nums.getD k 0 from (getD_get (by rw [hnl.out]; exact hkn)).symm] at x1
        have hL2 := Lib.hid (fun x => hS2.out x hc)
        have hF2 := Lib.hid (hS3.out hc)
        have ho1 := Lib.hid (hout.out k (nums.getD k 0))
        have hp1 := Lib.hid (hps.out k (nums.getD k 0))
        clear hcc hS1 hS2 hS3
        generalize nums.getD k 0 = t at *
        have HI := Lib.hid fun (W : World) => l1In_r t 0 12 W
        cases hin : inR t 0 12
        · rw [hin] at HI
          have hN := Lib.hid (hnone.out (j + 1) (hF2.out (ho1.out hin)) n (by omega))
          clear hst hib hbel hc hk e1 hinv hskip hlay hfail hlenS
          go_wp2_with (go_at_call 153; (with_reducible refine (HI.out _).mono ?_); rintro e w' ⟨rfl, rfl⟩)
          go_ret2
          unfold NeedGot
          rw [hN.out]
          exact ⟨rfl, hBL.out⟩
        · rw [hin] at HI
          have hin2 := (inR_iff _ _ _).1 hin
          obtain ⟨tn, rfl⟩ := Int.eq_ofNat_of_zero_le hin2.1
          have hT := Lib.hid (H3.out k hkn tn (by omega))
          cases ho : TO (k : Int) (tn : Int) with
          | none =>
            rw [ho] at hT
            have hN := Lib.hid (hnone.out (j + 1) (hF2.out ho) n (by omega))
            clear hst hib hbel hc hk e1 hinv hskip hlay hfail hlenS
            go_wp2_with (first | (go_at_call 153; (with_reducible refine (HI.out _).mono ?_); rintro e w' ⟨rfl, rfl⟩) | (go_at_call 73; (with_reducible refine (hT.out _ hBL.out).mono ?_); rintro e w2 ⟨PA, pc, QA, qc, rfl, _, _, hb2⟩; have hbi := Lib.hid (hBL.out.trans (hb2.mono hBL.out.size)); clear hb2; dsimp only [Option.map_none, Option.getD_none, Option.isSome_none]))
            go_ret2
            unfold NeedGot
            rw [hN.out]
            exact ⟨rfl, hbi.out⟩
          | some x =>
            rw [ho] at hT
            have hN := Lib.hid (hL2.out x ho)
            have hpx := Lib.hid (hp1.out x ho)
            have hcm := Lib.hid hc
            clear hst hib hbel hc hk e1 hinv hskip hlay hfail hlenS
            go_wp2_with (first | (go_at_call 153; (with_reducible refine (HI.out _).mono ?_); rintro e w' ⟨rfl, rfl⟩) | fail)
            refine (hT.out _ hBL.out).mono ?_
            rintro e w2 ⟨PA, pc, QA, qc, rfl, hp, _, hb2⟩
            dsimp only [Option.map_some, Option.getD_some, Option.isSome_some] at hp ⊢
            have hpr := Lib.hid hp.rs
            have hB2 := Lib.hid (hBL.out.trans (hb2.mono hBL.out.size))
            have hI2 := Lib.hid (hIB.out.below hb2 hgl)
            obtain ⟨xn, ps, ins, xc⟩ := x
            dsimp only at hpx hpr ⊢
            have hst0 := Lib.hid (ndB_lay0 (x := xn) (by omega) hcm.out hpx.out.2.2.1)
            have hpl := hpx.out.2.1
            clear hp hb2 y x1 hwd hT HI
            go_wp2_with (fail)
            go_loopw [54] (fun q wi => ∃ t : Nat, t ≤ ps.length ∧ q = .int .i64 t ∧ BB wi g (ndB (layTo cs k xn ps t)) ∧ Chg g (g + 1) w2 wi) (fun q _ => ps.length - (intOf q).toNat)
            case atStart => exact ⟨0, Nat.zero_le _, rfl, by rw [layTo_zero, hst0.out]; exact hI2.out, Chg.refl _ _ _⟩
            case round =>
              obtain ⟨t, htl, rfl, hib, hch⟩ := hrel
              have hIJ := Lib.hid hib
              have hCJ := Lib.hid hch
              have hgr := hib.lt
              clear hib hch
              by_cases hltt : t < ps.length
              · obtain ⟨pb, po, rfl, ⟨_, hpb⟩, hcc⟩ := (hpr.out.chg hCJ.out (Nat.le_refl _) (.inr hgl)) (by omega)
                have y1 := hcc t hltt
                have hpt := hpx.out.1 ps[t] (List.getElem_mem _)
                have hS := Lib.hid (layTo_succ cs k xn hltt)
                have hli := layTo_len cs k xn ps t
                clear hcc
                generalize ps[t] = pp at *
                obtain ⟨pn, rfl⟩ := Int.eq_ofNat_of_zero_le hpt.1
                rw [Int.toNat_natCast] at hS
                have hpm : (pn : Int) < (n : Int) := by omega
                have hpn0 : (0 : Int) ≤ (pn : Int) := by omega
                have y2 := hIJ.out.cell pn (by rw [ndB_len]; omega)
                have yf := hIJ.out.frozen pn
                have hIs := Lib.hid (hIJ.out.set pn true)
                have hCs := Lib.hid (hCJ.out.setCell (p := ⟨g, pn, none⟩) ⟨Nat.le_refl _, Nat.lt_succ_self _⟩ (.bool true))
                have hth := Lib.hid hltt
                generalize (ndB (layTo cs k xn ps t)).getD pn false = bb at *
                go_wp2
                have := hth.out
                exact ⟨⟨t + 1, hth.out, by go_num, by rw [hS.out, ndB_set]; exact hIs.out, hCs.out⟩, by simp [intOf]; omega⟩
              · obtain rfl : t = ps.length := by omega
                have hB3 := Lib.hid (below_chg hB2.out hCJ.out hB2.out.size hgw.out)
                have hwd : IntKind.i64.wrap ((k : Int) - 1) = (k : Int) - 1 := by rw [IntKind.wrap_i64]; omega
                go_wp2
                have := hjh.out
                exact ⟨⟨j + 1, _, _, hjh.out, by rw [e2.out], hN.out, hIJ.out, hB3.out⟩, by simp [intOf] <;> omega⟩
    · obtain rfl : j = n := by omega
      have e1 : (j : Int) - 1 - (j : Int) = -1 := by omega
      rw [e1]
      clear hib hbel
      go_wp2
      go_ret2
      unfold NeedGot
      rw [hst]
      exact ⟨g, rfl, hIB.out, hgw.out, hBL.out⟩
end Go.Proofs.Ytgcbfiamhpfkhaa
