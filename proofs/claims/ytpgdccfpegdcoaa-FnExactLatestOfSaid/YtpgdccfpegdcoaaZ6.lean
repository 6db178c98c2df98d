/- Texts of this proof, one behind the other: NAL, A, B2, C, D2, M2. -/
import Derived.Test.YtpgdccfpegdcoaaZ7
import Derived.Test.YtpgdccfpegdcoaaZ8
import Derived.Test.YtpgdccfpegdcoaaCA
import Derived.WalkKit
import Derived.WalkSpells
import Derived.WalkLawsBesides
import Derived.Lib.Hide
import Derived.Test.YtpgdccfpegdcoaaCV
import Derived.Test.YtpgdccfpegdcoaaN
import Derived.Test.YtpgdccfpegdcoaaHI
import Derived.Test.YtpgdccfpegdcoaaM
/- Chapter 9: heights, plain. -/
namespace Go.Proofs.Ytpgdccfpegdcoaa
open Go.RowKit
set_option linter.unusedVariables false

theorem mx_max (l : List Int) : ∀ a b : Int, mx l (max a b) = max (mx l a) b := by
  induction l with
  | nil => intro a b; rfl
  | cons y l ih =>
    intro a b
    show mx l (max (max a b) y) = max (mx l (max a y)) b
    rw [← ih]; congr 1; omega
theorem mapR_set (n : Nat) (f : Nat → Int) (i : Nat) (v : Int) : ((List.range n).map f).set i v = (List.range n).map fun q => if q = i then v else f q := by
  apply List.ext_getElem
  · simp
  · intro k h1 h2
    simp only [List.getElem_set, List.getElem_map, List.getElem_range]
    by_cases e : i = k
    · rw [if_pos e, if_pos e.symm]
    · rw [if_neg e, if_neg fun h => e h.symm]
theorem mapR_at (n : Nat) (f : Nat → Int) {i : Nat} (h : i < n) : ((List.range n).map f).getD i 0 = f i := by
  rw [List.getD_eq_getElem?_getD, List.getElem?_eq_getElem (by simpa using h)]; simp
theorem mapR_eq (n : Nat) {f g : Nat → Int} (h : ∀ q, q < n → f q = g q) : (List.range n).map f = (List.range n).map g :=
  List.map_congr_left fun q hq => h q (by simpa using hq)

def vE (cs : List In) (H : Nat → Int) (i q : Nat) : Option Int := if 0 ≤ dT cs i q then some (dT cs i q + H q) else none
def vL (cs : List In) (H : Nat → Int) (i j : Nat) : List Int := (List.range j).filterMap (vE cs H i)
theorem vL_succ (cs : List In) (H : Nat → Int) (i j : Nat) : vL cs H i (j + 1) = vL cs H i j ++ (vE cs H i j).toList := by
  unfold vL
  rw [List.range_succ, List.filterMap_append]
  cases h : vE cs H i j <;> simp [h]
theorem vL_yes {cs : List In} {H : Nat → Int} {i j : Nat} (h : 0 ≤ dT cs i j) : vL cs H i (j + 1) = vL cs H i j ++ [dT cs i j + H j] := by
  rw [vL_succ]; unfold vE; rw [if_pos h]; rfl
theorem vL_no {cs : List In} {H : Nat → Int} {i j : Nat} (h : ¬ 0 ≤ dT cs i j) : vL cs H i (j + 1) = vL cs H i j := by
  rw [vL_succ]; unfold vE; rw [if_neg h]; simp
theorem vL_start (cs : List In) (H : Nat → Int) (i : Nat) : ∀ j, j ≤ i + 1 → vL cs H i j = []
  | 0, _ => rfl
  | j + 1, h => by rw [vL_no (by rw [dT_ge (by omega)]; omega)]; exact vL_start cs H i j (by omega)
theorem vL_congr {cs : List In} {H H' : Nat → Int} {i : Nat} : ∀ j, (∀ q, i < q → q < j → H q = H' q) → vL cs H i j = vL cs H' i j
  | 0, _ => rfl
  | j + 1, h => by
    have ih : vL cs H i j = vL cs H' i j := vL_congr j fun q h1 h2 => h q h1 (by omega)
    by_cases h0 : 0 ≤ dT cs i j
    · rw [vL_yes h0, vL_yes h0, ih, h j (dT_lt_of h0) (by omega)]
    · rw [vL_no h0, vL_no h0, ih]
theorem mem_vL {cs : List In} {H : Nat → Int} {i j : Nat} {x : Int} : x ∈ vL cs H i j ↔ ∃ q, q < j ∧ 0 ≤ dT cs i q ∧ x = dT cs i q + H q := by
  unfold vL vE
  rw [List.mem_filterMap]
  constructor
  · rintro ⟨q, hq, he⟩
    split at he
    · next h => exact ⟨q, by simpa using hq, h, by simpa using he.symm⟩
    · cases he
  · rintro ⟨q, hq, h, rfl⟩
    exact ⟨q, by simpa using hq, by rw [if_pos h]⟩

def HT (cs : List In) : Nat → (Nat → Int)
  | 0 => fun _ => 0
  | m + 1 => fun q => if q + (m + 1) = cs.length then mx (vL cs (HT cs m) q cs.length) (cstA cs q) else HT cs m q
theorem HT_succ (cs : List In) (m q : Nat) : HT cs (m + 1) q = if q + (m + 1) = cs.length then mx (vL cs (HT cs m) q cs.length) (cstA cs q) else HT cs m q := rfl
theorem HT_bd (cs : List In) : ∀ m q, 0 ≤ HT cs m q ∧ HT cs m q ≤ 4 * (m : Int)
  | 0, q => by show (0 : Int) ≤ 0 ∧ (0 : Int) ≤ _; omega
  | m + 1, q => by
    have ih := HT_bd cs m
    rw [HT_succ]
    split
    · have h1 := cstA_bd cs q
      have h2 := mx_le (vL cs (HT cs m) q cs.length) (cstA cs q)
      refine ⟨by omega, ?_⟩
      rcases mx_in (vL cs (HT cs m) q cs.length) (cstA cs q) with h3 | h3
      · rw [h3]; omega
      · obtain ⟨p, _, _, h4⟩ := mem_vL.1 h3
        rw [h4]
        have := dT_bd cs q p
        have := ih p
        omega
    · have := ih q; omega
theorem HT_keep {cs : List In} {m q : Nat} (h : cs.length ≤ q + m) : ∀ m', m ≤ m' → HT cs m' q = HT cs m q
  | 0, h1 => by obtain rfl : m = 0 := by omega
                rfl
  | m' + 1, h1 => by
    rcases Nat.lt_or_ge m' m with h2 | h2
    · obtain rfl : m = m' + 1 := by omega
      rfl
    · rw [HT_succ, if_neg (by omega)]
      exact HT_keep h m' h2
/-- An instruction's height. -/
def hH (cs : List In) (q : Nat) : Int := HT cs cs.length q
theorem hH_eq {cs : List In} {i : Nat} (h : i < cs.length) : hH cs i = mx (vL cs (hH cs) i cs.length) (cstA cs i) := by
  obtain ⟨m, hm⟩ : ∃ m, i + (m + 1) = cs.length := ⟨cs.length - i - 1, by omega⟩
  have h1 : hH cs i = HT cs (m + 1) i := HT_keep (by omega) cs.length (by omega)
  rw [h1, HT_succ, if_pos hm, vL_congr (H := HT cs m) (H' := hH cs) cs.length fun q h2 h3 => (HT_keep (by omega) cs.length (by omega)).symm]
theorem hH_bd {cs : List In} (h : cs.length ≤ 20) (q : Nat) : 0 ≤ hH cs q ∧ hH cs q ≤ 80 := by
  have := HT_bd cs cs.length q
  unfold hH; omega
def hL (cs : List In) : List Int := (List.range cs.length).map (hH cs)
theorem hL_len (cs : List In) : (hL cs).length = cs.length := by simp [hL]
theorem hL_bd {cs : List In} (h : cs.length ≤ 20) : ∀ x ∈ hL cs, 0 ≤ x ∧ x ≤ 80 := fun x hx => by
  unfold hL at hx
  obtain ⟨q, _, rfl⟩ := List.mem_map.1 hx
  exact hH_bd h q

/- As the model finds them. -/
def hz (cs : List In) (k : Nat) : List Int := (List.range cs.length).map fun q => if k ≤ q then hH cs q else 0
def hzr (cs : List In) (i j : Nat) : List Int := (hz cs (i + 1)).set i (mx (vL cs (hH cs) i j) (cstA cs i))
theorem hz_len (cs : List In) (k : Nat) : (hz cs k).length = cs.length := by simp [hz]
theorem hzr_len (cs : List In) (i j : Nat) : (hzr cs i j).length = cs.length := by unfold hzr; rw [List.length_set, hz_len]
theorem hz_top (cs : List In) : hz cs cs.length = List.replicate cs.length 0 := by
  unfold hz
  rw [mapR_eq cs.length (g := fun _ => 0) fun q hq => if_neg (by omega)]
  apply List.ext_getElem
  · simp
  · intro k h1 h2; simp
theorem hz_bot (cs : List In) : hz cs 0 = hL cs := by
  unfold hz hL
  exact mapR_eq _ fun q hq => if_pos (Nat.zero_le _)
theorem hzr_at {cs : List In} {i j : Nat} (hi : i < cs.length) : (hzr cs i j).getD i 0 = mx (vL cs (hH cs) i j) (cstA cs i) := by
  unfold hzr hz
  rw [mapR_set, mapR_at _ _ hi, if_pos rfl]
theorem hzr_gt {cs : List In} {i j q : Nat} (h1 : i < q) (h2 : q < cs.length) : (hzr cs i j).getD q 0 = hH cs q := by
  unfold hzr hz
  rw [mapR_set, mapR_at _ _ h2, if_neg (by omega), if_pos (by omega)]
theorem hzr_start (cs : List In) (i : Nat) : hzr cs i (i + 1) = (hz cs (i + 1)).set i (cstA cs i) := by
  unfold hzr; rw [vL_start cs (hH cs) i (i + 1) (Nat.le_refl _)]; rfl
theorem hzr_end {cs : List In} {i : Nat} (hi : i < cs.length) : hzr cs i cs.length = hz cs i := by
  unfold hzr
  rw [← hH_eq hi]
  unfold hz
  rw [mapR_set]
  refine mapR_eq _ fun q hq => ?_
  by_cases e : q = i
  · rw [if_pos e, if_pos (by omega), e]
  · rw [if_neg e]
    by_cases h : i ≤ q
    · rw [if_pos h, if_pos (by omega)]
    · rw [if_neg h, if_neg (by omega)]
theorem hzr_yes {cs : List In} {i j : Nat} (hi : i < cs.length) (hij : i < j) (hj : j < cs.length) (h : 0 ≤ dT cs i j) : hzr cs i (j + 1) = (hzr cs i j).set i (max ((hzr cs i j).getD i 0) (dT cs i j + (hzr cs i j).getD j 0)) := by
  rw [hzr_at hi, hzr_gt hij hj]
  unfold hzr
  rw [List.set_set, vL_yes h, mx_snoc]
theorem hzr_no {cs : List In} {i j : Nat} (h : ¬ 0 ≤ dT cs i j) : hzr cs i (j + 1) = hzr cs i j := by
  unfold hzr; rw [vL_no h]
theorem hzr_bd {cs : List In} (h20 : cs.length ≤ 20) {i : Nat} (j : Nat) (hi : i < cs.length) : 0 ≤ (hzr cs i j).getD i 0 ∧ (hzr cs i j).getD i 0 ≤ 100 := by
  rw [hzr_at hi]
  have h1 := cstA_bd cs i
  have h2 := mx_le (vL cs (hH cs) i j) (cstA cs i)
  refine ⟨by omega, ?_⟩
  rcases mx_in (vL cs (hH cs) i j) (cstA cs i) with h3 | h3
  · rw [h3]; omega
  · obtain ⟨p, _, _, h4⟩ := mem_vL.1 h3
    rw [h4]
    have := dT_bd cs i p
    have := hH_bd h20 p
    omega

/- As the program finds them. -/
def uE (cs : List In) (i k q : Nat) : Option Int := if k ≤ q ∧ 0 ≤ dT cs i q then some (dT cs i q + hH cs q) else none
def uL (cs : List In) (i k : Nat) : List Int := (List.range cs.length).filterMap (uE cs i k)
theorem mem_uL {cs : List In} {i k : Nat} {x : Int} : x ∈ uL cs i k ↔ ∃ q, q < cs.length ∧ k ≤ q ∧ 0 ≤ dT cs i q ∧ x = dT cs i q + hH cs q := by
  unfold uL uE
  rw [List.mem_filterMap]
  constructor
  · rintro ⟨q, hq, he⟩
    split at he
    · next h => exact ⟨q, by simpa using hq, h.1, h.2, by simpa using he.symm⟩
    · cases he
  · rintro ⟨q, hq, h1, h2, rfl⟩
    exact ⟨q, by simpa using hq, by rw [if_pos ⟨h1, h2⟩]⟩
def pc (cs : List In) (q k : Nat) : Int := mx (uL cs q k) 0
theorem pc_bd {cs : List In} (h20 : cs.length ≤ 20) (q k : Nat) : 0 ≤ pc cs q k ∧ pc cs q k ≤ 100 := by
  unfold pc
  have h2 := mx_le (uL cs q k) 0
  refine ⟨h2.2, ?_⟩
  rcases mx_in (uL cs q k) 0 with h3 | h3
  · rw [h3]; omega
  · obtain ⟨p, _, _, _, h4⟩ := mem_uL.1 h3
    rw [h4]
    have := dT_bd cs q p
    have := hH_bd h20 p
    omega
theorem pc_top (cs : List In) (q : Nat) : pc cs q cs.length = 0 := by
  unfold pc
  rcases mx_in (uL cs q cs.length) 0 with h | h
  · exact h
  · obtain ⟨p, h1, h2, _⟩ := mem_uL.1 h; omega
theorem pc_yes {cs : List In} {q k : Nat} (hk : k < cs.length) (h : 0 ≤ dT cs q k) : pc cs q k = max (pc cs q (k + 1)) (dT cs q k + hH cs k) := by
  unfold pc
  rw [← mx_snoc]
  refine mx_eq fun x => ?_
  rw [List.mem_append, mem_uL, mem_uL, List.mem_singleton]
  constructor
  · rintro (⟨p, h1, h2, h3, h4⟩ | rfl)
    · by_cases e : p = k
      · subst e; exact .inl (.inr h4)
      · exact .inl (.inl ⟨p, h1, by omega, h3, h4⟩)
    · exact .inr rfl
  · rintro ((⟨p, h1, h2, h3, h4⟩ | rfl) | rfl)
    · exact .inl ⟨p, h1, by omega, h3, h4⟩
    · exact .inl ⟨k, hk, Nat.le_refl _, h, rfl⟩
    · exact .inr rfl
theorem pc_no {cs : List In} {q k : Nat} (h : ¬ 0 ≤ dT cs q k) : pc cs q k = pc cs q (k + 1) := by
  unfold pc
  refine mx_eq fun x => ?_
  rw [mem_uL, mem_uL]
  constructor
  · rintro (⟨p, h1, h2, h3, h4⟩ | rfl)
    · by_cases e : p = k
      · subst e; exact absurd h3 h
      · exact .inl ⟨p, h1, by omega, h3, h4⟩
    · exact .inr rfl
  · rintro (⟨p, h1, h2, h3, h4⟩ | rfl)
    · exact .inl ⟨p, h1, by omega, h3, h4⟩
    · exact .inr rfl
theorem pc_own {cs : List In} {i : Nat} (hi : i < cs.length) : max (pc cs i (i + 1)) (cstA cs i) = hH cs i := by
  have h0 := (cstA_bd cs i).1
  have e : (cstA cs i) = max 0 (cstA cs i) := by omega
  rw [hH_eq hi]
  conv => rhs; rw [e]
  rw [mx_max]
  congr 1
  unfold pc
  refine mx_eq fun x => ?_
  rw [mem_uL, mem_vL]
  constructor
  · rintro (⟨p, h1, h2, h3, h4⟩ | rfl)
    · exact .inl ⟨p, h1, h3, h4⟩
    · exact .inr rfl
  · rintro (⟨p, h1, h3, h4⟩ | rfl)
    · exact .inl ⟨p, h1, by have := dT_lt_of h3; omega, h3, h4⟩
    · exact .inr rfl
def hp (cs : List In) (k : Nat) : List Int := (List.range cs.length).map fun q => if k ≤ q then hH cs q else pc cs q k
def hps (cs : List In) (i : Nat) : List Int := (hp cs (i + 1)).set i (hH cs i)
def hstep (v : Int) (xs : List Int) (d : Int × Int) : List Int := xs.set d.1.toNat (max (xs.getD d.1.toNat 0) (d.2 + v))
def hpr (cs : List In) (i t : Nat) : List Int := ((ndL cs i cs.length).take t).foldl (hstep (hH cs i)) (hps cs i)
theorem hp_len (cs : List In) (k : Nat) : (hp cs k).length = cs.length := by simp [hp]
theorem hps_len (cs : List In) (i : Nat) : (hps cs i).length = cs.length := by unfold hps; rw [List.length_set, hp_len]
theorem hp_top (cs : List In) : hp cs cs.length = List.replicate cs.length 0 := by
  unfold hp
  rw [mapR_eq cs.length (g := fun _ => 0) fun q hq => by rw [if_neg (by omega), pc_top]]
  apply List.ext_getElem
  · simp
  · intro k h1 h2; simp
theorem hp_bot (cs : List In) : hp cs 0 = hL cs := by
  unfold hp hL
  exact mapR_eq _ fun q hq => if_pos (Nat.zero_le _)
theorem hps_eq {cs : List In} {i : Nat} (hi : i < cs.length) : hps cs i = (hp cs (i + 1)).set i (max ((hp cs (i + 1)).getD i 0) (cstA cs i)) := by
  have h : (hp cs (i + 1)).getD i 0 = pc cs i (i + 1) := by unfold hp; rw [mapR_at _ _ hi, if_neg (by omega)]
  rw [h, pc_own hi]; rfl
theorem hp_bd {cs : List In} (h20 : cs.length ≤ 20) (k : Nat) : ∀ x ∈ hp cs k, 0 ≤ x ∧ x ≤ 100 := fun x hx => by
  unfold hp at hx
  obtain ⟨q, _, rfl⟩ := List.mem_map.1 hx
  have := hH_bd h20 q
  have := pc_bd h20 q k
  split <;> omega
theorem hfold_len (v : Int) : ∀ (ns : List (Int × Int)) (xs : List Int), (ns.foldl (hstep v) xs).length = xs.length
  | [], xs => rfl
  | d :: ns, xs => by
    show (ns.foldl (hstep v) (hstep v xs d)).length = _
    rw [hfold_len v ns]; unfold hstep; rw [List.length_set]
theorem hpr_len (cs : List In) (i t : Nat) : (hpr cs i t).length = cs.length := by unfold hpr; rw [hfold_len, hps_len]
theorem hpr_succ {cs : List In} {i t : Nat} (h : t < (ndL cs i cs.length).length) : hpr cs i (t + 1) = hstep (hH cs i) (hpr cs i t) (ndL cs i cs.length)[t] := by
  unfold hpr; rw [List.take_succ_eq_append_getElem h, List.foldl_append]; rfl
theorem hfold_own (v : Int) (i : Nat) : ∀ (ns : List (Int × Int)) (xs : List Int), (∀ d ∈ ns, d.1.toNat < i) → (ns.foldl (hstep v) xs).getD i 0 = xs.getD i 0
  | [], xs, _ => rfl
  | d :: ns, xs, h => by
    show (ns.foldl (hstep v) (hstep v xs d)).getD i 0 = _
    rw [hfold_own v i ns _ fun e he => h e (by simp [he])]
    have h1 := h d (by simp)
    unfold hstep
    rw [List.getD_eq_getElem?_getD, List.getElem?_set_ne (by omega), ← List.getD_eq_getElem?_getD]
theorem hpr_own {cs : List In} {i t : Nat} (hi : i < cs.length) : (hpr cs i t).getD i 0 = hH cs i := by
  unfold hpr
  rw [hfold_own _ i _ _ fun d hd => by
    obtain ⟨q, h1, _, _, rfl⟩ := mem_ndL (List.mem_of_mem_take hd)
    simpa using h1]
  unfold hps hp
  rw [mapR_set, mapR_at _ _ hi, if_pos rfl]
theorem hfold_at {cs : List In} {i : Nat} (hi : i < cs.length) : ∀ k, k ≤ cs.length → (ndL cs i k).foldl (hstep (hH cs i)) (hps cs i) = (List.range cs.length).map fun q => if i ≤ q then hH cs q else if q < k then pc cs q i else pc cs q (i + 1)
  | 0, _ => by
    show hps cs i = _
    unfold hps hp
    rw [mapR_set]
    refine mapR_eq _ fun q hq => ?_
    by_cases e : q = i
    · rw [if_pos e, if_pos (by omega), e]
    · rw [if_neg e]
      by_cases h : i ≤ q
      · rw [if_pos h, if_pos (by omega)]
      · rw [if_neg h, if_neg (by omega), if_neg (by omega)]
  | k + 1, hk => by
    have ih := hfold_at hi k (by omega)
    by_cases h0 : 0 ≤ dT cs k i
    · have hki := dT_lt_of h0
      rw [ndL_yes h0, List.foldl_append, ih]
      show hstep _ _ _ = _
      unfold hstep
      simp only [Int.toNat_natCast]
      rw [mapR_at _ _ (by omega), if_neg (by omega), if_neg (by omega), ← pc_yes hi h0, mapR_set]
      refine mapR_eq _ fun q hq => ?_
      by_cases e : q = k
      · rw [if_pos e, if_neg (by omega), if_pos (by omega), e]
      · rw [if_neg e]
        by_cases h : i ≤ q
        · rw [if_pos h, if_pos h]
        · rw [if_neg h, if_neg h]
          by_cases h2 : q < k
          · rw [if_pos h2, if_pos (by omega)]
          · rw [if_neg h2, if_neg (by omega)]
    · rw [ndL_no h0, ih]
      refine mapR_eq _ fun q hq => ?_
      by_cases h : i ≤ q
      · rw [if_pos h, if_pos h]
      · rw [if_neg h, if_neg h]
        by_cases h2 : q < k
        · rw [if_pos h2, if_pos (by omega)]
        · rw [if_neg h2]
          by_cases h3 : q < k + 1
          · obtain rfl : q = k := by omega
            rw [if_pos h3, pc_no h0]
          · rw [if_neg h3]
theorem hpr_end {cs : List In} {i : Nat} (hi : i < cs.length) : hpr cs i (ndL cs i cs.length).length = hp cs i := by
  unfold hpr
  rw [List.take_length, hfold_at hi cs.length (Nat.le_refl _)]
  unfold hp
  refine mapR_eq _ fun q hq => ?_
  by_cases h : i ≤ q
  · rw [if_pos h, if_pos h]
  · rw [if_neg h, if_neg h, if_pos hq]
theorem hpr_zero (cs : List In) (i : Nat) : hpr cs i 0 = hps cs i := rfl
end Go.Proofs.Ytpgdccfpegdcoaa

namespace Go.Proofs.Ytpgdccfpegdcoaa
open Go.RowKit

theorem l1In_any (n lo hi : Int) (w : World) :
    Calls Try.prog 109 #[.int .i64 n, .int .i64 lo, .int .i64 hi] w fun e w' => e = .returned (.bool (decide (lo ≤ n) && decide (n ≤ hi))) ∧ w = w' := by
  by_cases h1 : lo ≤ n
  · by_cases h2 : n ≤ hi
    all_goals
      go_enter Try.func109, Try.ntmps109
      go_wp2
      go_ret
      exact ⟨by simp [*], rfl⟩
  · go_enter Try.func109, Try.ntmps109
    go_wp2
    go_ret
    exact ⟨by simp; omega, rfl⟩

/-- l1HasS over a slice of strings. -/
def hasS (ss : List ByteArray) (s : ByteArray) : Bool := ss.any fun t => t.toList == s.toList
end Go.Proofs.Ytpgdccfpegdcoaa

namespace Go.Proofs.Ytpgdccfpegdcoaa
open Go.RowKit

def opArr : Array Value := #[.string ⟨#[97,100,100]⟩, .string ⟨#[115,117,98]⟩, .string ⟨#[109,117,108]⟩, .string ⟨#[97,110,100]⟩, .string ⟨#[111,114]⟩, .string ⟨#[120,111,114]⟩, .string ⟨#[115,104,108]⟩, .string ⟨#[115,104,114]⟩, .string ⟨#[108,101,115,115]⟩, .string ⟨#[101,113]⟩]
def opList : List ByteArray := [⟨#[97,100,100]⟩, ⟨#[115,117,98]⟩, ⟨#[109,117,108]⟩, ⟨#[97,110,100]⟩, ⟨#[111,114]⟩, ⟨#[120,111,114]⟩, ⟨#[115,104,108]⟩, ⟨#[115,104,114]⟩, ⟨#[108,101,115,115]⟩, ⟨#[101,113]⟩]
theorem hasS_ops (s : ByteArray) : hasS opList s = isTwo s := by
  have e : opList.map ByteArray.toList = twoOps := by decide +kernel
  unfold hasS isTwo; rw [← e, List.any_map]; rfl

theorem opArr_cell (k : Nat) (h : k < opList.length) : opArr[k]? = some (.string opList[k]) := by
  match k, h with
  | 0, _ => rfl
  | 1, _ => rfl
  | 2, _ => rfl
  | 3, _ => rfl
  | 4, _ => rfl
  | 5, _ => rfl
  | 6, _ => rfl
  | 7, _ => rfl
  | 8, _ => rfl
  | 9, _ => rfl

theorem ar_cases (s : ByteArray) : (ar s = 0 ∧ isOne s = false ∧ isTwo s = false) ∨ (ar s = 1 ∧ isOne s = true ∧ isTwo s = false) ∨ (ar s = 2 ∧ isOne s = false ∧ isTwo s = true) ∨ (ar s = -1 ∧ isOne s = false ∧ isTwo s = false) := by
  rcases op_cases s with h|h|h|h|h|h|h|h|h|h|h|h|h|h|h
  iterate 2 (· left; simp [ar, isIn, isConst, isOne, isTwo, twoOps, h])
  iterate 2 (· right; left; simp [ar, isIn, isConst, isOne, isTwo, twoOps, h])
  iterate 10 (· right; right; left; simp [ar, isIn, isConst, isOne, isTwo, twoOps, h])
  right; right; right
  obtain ⟨h1, h2, h3, h4, h5, h6, h7, h8, h9, h10, h11, h12, h13, h14⟩ := h
  have f : ∀ t : List UInt8, (s.toList == t) = false → (t == s.toList) = false := fun t h => by
    rw [beq_eq_false_iff_ne] at h ⊢; exact Ne.symm h
  simp only [ar, isIn, isConst, isOne, isTwo, twoOps, List.any_cons, List.any_nil, h1, h2, h3, h4, f _ h5, f _ h6, f _ h7, f _ h8, f _ h9, f _ h10, f _ h11, f _ h12, f _ h13, f _ h14, Bool.or_false, Bool.false_eq_true, if_false]
  simp

end Go.Proofs.Ytpgdccfpegdcoaa

namespace Go.Proofs.Ytpgdccfpegdcoaa
open Go.RowKit

end Go.Proofs.Ytpgdccfpegdcoaa

namespace Go.Proofs.Ytpgdccfpegdcoaa
open Go.RowKit

/-- What parts' slice is: a name for the post. -/
def PartsAre (w : World) (xs : List Int) (e : Ending) (w' : World) : Prop :=
  ∃ A c, e = .returned (.slice A xs.length c) ∧ IS w' w.heap.size w'.heap.size A xs ∧ Below w.heap.size w w'

theorem is_lit1 {w : World} {g L B : Nat} {a : Int} {t : TypeId} (hg : w.heap.size = g) (hL : L ≤ g) (hB : g < B) : IS (w.alloc (.cells #[.int .i64 a] t)) L B (some ⟨g, 0, none⟩) [a] := by
  subst hg
  exact (show IB (w.alloc (.cells #[.int .i64 a] t)) w.heap.size t [a] from heap_alloc_new w _).toIS.more hL hB
theorem is_lit2 {w : World} {g L B : Nat} {a b : Int} {t : TypeId} (hg : w.heap.size = g) (hL : L ≤ g) (hB : g < B) : IS (w.alloc (.cells #[.int .i64 a, .int .i64 b] t)) L B (some ⟨g, 0, none⟩) [a, b] := by
  subst hg
  exact (show IB (w.alloc (.cells #[.int .i64 a, .int .i64 b] t)) w.heap.size t [a, b] from heap_alloc_new w _).toIS.more hL hB

end Go.Proofs.Ytpgdccfpegdcoaa

namespace Go.Proofs.Ytpgdccfpegdcoaa
open Go.RowKit
/-! ### uses -/
def bump (u : List Int) (k : Int) : List Int := u.set k.toNat (u.getD k.toNat 0 + 1)
def usesAt (es : List Nd) (k : Nat) : List Int := (es.take k).foldl (fun u n => (parts n).foldl bump u) (List.replicate es.length 0)
def uses (es : List Nd) : List Int := usesAt es es.length
def Bd (c : Int) (u : List Int) : Prop := ∀ i, 0 ≤ u.getD i 0 ∧ u.getD i 0 ≤ c
theorem length_bump (u : List Int) (k : Int) : (bump u k).length = u.length := by simp [bump]
theorem Bd.mono {c d : Int} {u : List Int} (h : Bd c u) (hd : c ≤ d) : Bd d u := fun i => by have := h i; omega
theorem Bd.bump {c : Int} {u : List Int} (h : Bd c u) (k : Int) : Bd (c + 1) (bump u k) := by
  intro i
  have h1 := h i
  have h2 := h k.toNat
  unfold Proofs.Ytpgdccfpegdcoaa.bump
  rw [List.getD_eq_getElem?_getD, List.getElem?_set]
  rw [List.getD_eq_getElem?_getD] at h1 h2
  split
  · split
    · simp; omega
    · simp; omega
  · omega
theorem parts_len (n : Nd) : (parts n).length ≤ 2 := by unfold parts; split; · simp
                                                        split <;> simp
theorem foldl_bump_len (ps : List Int) (u : List Int) : (ps.foldl bump u).length = u.length := by
  induction ps generalizing u with
  | nil => rfl
  | cons p ps ih => rw [List.foldl_cons, ih, length_bump]
theorem foldl_bump_Bd (ps : List Int) : ∀ {c : Int} {u : List Int}, Bd c u → Bd (c + ps.length) (ps.foldl bump u) := by
  induction ps with
  | nil => intro c u h; simpa using h
  | cons p ps ih => intro c u h; rw [List.foldl_cons]; exact (ih (h.bump p)).mono (by simp; omega)
theorem usesAt_zero (es : List Nd) : usesAt es 0 = List.replicate es.length 0 := rfl
theorem usesAt_succ {es : List Nd} {k : Nat} (h : k < es.length) : usesAt es (k + 1) = (parts es[k]).foldl bump (usesAt es k) := by
  unfold usesAt; rw [List.take_succ_eq_append_getElem h, List.foldl_append]; rfl
theorem usesAt_len (es : List Nd) (k : Nat) : (usesAt es k).length = es.length := by
  induction k with
  | zero => simp [usesAt]
  | succ k ih =>
    by_cases h : k < es.length
    · rw [usesAt_succ h, foldl_bump_len, ih]
    · have : es.take (k+1) = es.take k := by rw [List.take_of_length_le (by omega), List.take_of_length_le (by omega)]
      unfold usesAt at *; rw [this]; exact ih
theorem usesAt_Bd {es : List Nd} {k : Nat} (h : k ≤ es.length) : Bd (2 * k) (usesAt es k) := by
  induction k with
  | zero => intro i; rw [usesAt_zero, List.getD_eq_getElem?_getD, List.getElem?_replicate]; split <;> simp
  | succ k ih =>
    rw [usesAt_succ (by omega)]
    have := parts_len es[k]
    exact (foldl_bump_Bd _ (ih (by omega))).mono (by omega)
end Go.Proofs.Ytpgdccfpegdcoaa
