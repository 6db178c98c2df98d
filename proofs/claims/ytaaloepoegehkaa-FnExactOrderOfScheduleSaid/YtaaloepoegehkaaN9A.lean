import Derived.Test.YtaaloepoegehkaaSR
import Derived.Test.YtaaloepoegehkaaHI
import Derived.Test.YtaaloepoegehkaaMI
import Derived.Test.YtaaloepoegehkaaCF
import Derived.Test.YtaaloepoegehkaaKInstr
/- Chapter 9, plain: delays, what depends, needs. -/
namespace Go.Proofs.Ytaaloepoegehkaa
open Go.RowKit
set_option linter.unusedVariables false

theorem fm_c1 {s : ByteArray} (h : (fm s).ok = true) : 1 ≤ (fm s).c := by
  revert h
  show (fun f : Fm => f.ok = true → 1 ≤ f.c) (fm s)
  unfold fm
  repeat (refine ite_P (P := fun f : Fm => f.ok = true → 1 ≤ f.c) (by decide) ?_)
  decide
def inAt (cs : List In) (i : Nat) : In := cs.getD i zeroIn
theorem inAt_eq {cs : List In} {i : Nat} (h : i < cs.length) : inAt cs i = cs[i] := by
  unfold inAt; rw [List.getD_eq_getElem?_getD, List.getElem?_eq_getElem h]; rfl
/-- Whether an instruction behind i and before j writes what i writes. -/
def btw (cs : List In) (i j : Nat) : Bool := ((cs.take j).drop (i + 1)).any fun z => z.d == (inAt cs i).d
theorem btw_self (cs : List In) (i : Nat) : btw cs i (i + 1) = false := by
  unfold btw
  rw [List.drop_eq_nil_of_le (by rw [List.length_take]; omega)]; rfl
theorem btw_snoc {cs : List In} {i k : Nat} (h1 : i < k) (h2 : k < cs.length) : btw cs i (k + 1) = (btw cs i k || (cs[k].d == (inAt cs i).d)) := by
  unfold btw
  rw [List.take_succ_eq_append_getElem h2, List.drop_append_of_le_length (by rw [List.length_take]; omega), List.any_append]; simp
def dl (cs : List In) (i j : Nat) : Int :=
  if (hasI (readsL (inAt cs j)) (inAt cs i).d && !btw cs i j) = true then (fm (inAt cs i).op).c
  else if ((inAt cs i).d == (inAt cs j).d) = true then 1
  else if hasI (readsL (inAt cs i)) (inAt cs j).d = true then 0 else -1
theorem dl_bd (cs : List In) (i j : Nat) : -1 ≤ dl cs i j ∧ dl cs i j ≤ 4 := by
  unfold dl
  have := fm_c (inAt cs i).op
  split
  · omega
  · split
    · omega
    · split <;> omega
def dT (cs : List In) (i j : Nat) : Int := if i < j then dl cs i j else -1
theorem dT_lt {cs : List In} {i j : Nat} (h : i < j) : dT cs i j = dl cs i j := if_pos h
theorem dT_ge {cs : List In} {i j : Nat} (h : ¬ i < j) : dT cs i j = -1 := if_neg h
theorem dT_bd (cs : List In) (i j : Nat) : -1 ≤ dT cs i j ∧ dT cs i j ≤ 4 := by
  unfold dT
  split
  · exact dl_bd cs i j
  · omega
theorem dT_lt_of {cs : List In} {i j : Nat} (h : 0 ≤ dT cs i j) : i < j := by
  rcases Nat.lt_or_ge i j with h1 | h1
  · exact h1
  · rw [dT_ge (by omega)] at h; omega

/- The lists i, j, delay. -/
def dEnt (cs : List In) (i j : Nat) : Option (List Int) := if 0 ≤ dT cs i j then some [(i : Int), (j : Int), dT cs i j] else none
def dRow (cs : List In) (i m : Nat) : List (List Int) := (List.range m).filterMap (dEnt cs i)
def dAll (cs : List In) (k : Nat) : List (List Int) := (List.range k).flatMap fun i => dRow cs i cs.length
def dSt (cs : List In) (k m : Nat) : List (List Int) := dAll cs k ++ dRow cs k m
theorem dRow_succ (cs : List In) (i m : Nat) : dRow cs i (m + 1) = dRow cs i m ++ (dEnt cs i m).toList := by
  unfold dRow
  rw [List.range_succ, List.filterMap_append]
  cases h : dEnt cs i m <;> simp [h]
theorem dSt_zero (cs : List In) (k : Nat) : dSt cs k 0 = dAll cs k := by simp [dSt, dRow]
theorem dSt_yes {cs : List In} {k m : Nat} (h : 0 ≤ dT cs k m) : dSt cs k (m + 1) = dSt cs k m ++ [[(k : Int), (m : Int), dT cs k m]] := by
  unfold dSt
  rw [dRow_succ, ← List.append_assoc]
  congr 1
  unfold dEnt; rw [if_pos h]; rfl
theorem dSt_no {cs : List In} {k m : Nat} (h : ¬ 0 ≤ dT cs k m) : dSt cs k (m + 1) = dSt cs k m := by
  unfold dSt
  rw [dRow_succ]
  unfold dEnt; rw [if_neg h]; simp
theorem dSt_end (cs : List In) (k : Nat) : dSt cs k cs.length = dAll cs (k + 1) := by
  unfold dSt dAll
  rw [List.range_succ, List.flatMap_append]; simp
theorem dSt_skip (cs : List In) (k : Nat) : ∀ m, m ≤ k + 1 → dSt cs k m = dAll cs k
  | 0, _ => dSt_zero cs k
  | m + 1, h => by rw [dSt_no (by rw [dT_ge (by omega)]; omega)]; exact dSt_skip cs k m (by omega)
theorem dAll_zero (cs : List In) : dAll cs 0 = [] := rfl
theorem dRow_len (cs : List In) (i m : Nat) : (dRow cs i m).length ≤ m := by
  unfold dRow
  exact Nat.le_trans (List.length_filterMap_le _ _) (by simp)
theorem dAll_len (cs : List In) : ∀ k, (dAll cs k).length ≤ k * cs.length
  | 0 => by simp [dAll_zero]
  | k + 1 => by
    rw [← dSt_end]
    unfold dSt
    rw [List.length_append]
    have h1 := dAll_len cs k
    have h2 := dRow_len cs k cs.length
    rw [Nat.succ_mul]; omega
theorem dSt_len {cs : List In} {k m : Nat} (h20 : cs.length ≤ 20) (hk : k ≤ cs.length) (hm : m ≤ cs.length) : (dSt cs k m).length ≤ 420 := by
  unfold dSt
  rw [List.length_append]
  have h1 := dAll_len cs k
  have h2 := dRow_len cs k m
  have : k * cs.length ≤ 20 * 20 := Nat.mul_le_mul (by omega) h20
  omega
theorem mem_dRow {cs : List In} {i m : Nat} {d : List Int} (h : d ∈ dRow cs i m) : ∃ j, j < m ∧ 0 ≤ dT cs i j ∧ d = [(i : Int), (j : Int), dT cs i j] := by
  unfold dRow at h
  rw [List.mem_filterMap] at h
  obtain ⟨j, hj, he⟩ := h
  refine ⟨j, by simpa using hj, ?_⟩
  unfold dEnt at he
  split at he
  · exact ⟨by assumption, by injection he with he; exact he.symm⟩
  · cases he
theorem mem_dAll {cs : List In} {k : Nat} {d : List Int} (h : d ∈ dAll cs k) : ∃ i j, i < k ∧ j < cs.length ∧ 0 ≤ dT cs i j ∧ d = [(i : Int), (j : Int), dT cs i j] := by
  unfold dAll at h
  rw [List.mem_flatMap] at h
  obtain ⟨i, hi, hd⟩ := h
  obtain ⟨j, h1, h2, h3⟩ := mem_dRow hd
  exact ⟨i, j, by simpa using hi, h1, h2, h3⟩
theorem dAll_three {cs : List In} {k : Nat} : ∀ d ∈ dAll cs k, d.length = 3 := fun d h => by
  obtain ⟨i, j, _, _, _, rfl⟩ := mem_dAll h; rfl

/- The needs of each instruction. -/
def ndOf (j : Int) (d : List Int) : Option (Int × Int) := if d.getD 1 0 = j then some (d.getD 0 0, d.getD 2 0) else none
def ndF (ds : List (List Int)) (j : Nat) : List (Int × Int) := ds.filterMap (ndOf j)
def ndEnt (cs : List In) (j i : Nat) : Option (Int × Int) := if 0 ≤ dT cs i j then some ((i : Int), dT cs i j) else none
def ndL (cs : List In) (j k : Nat) : List (Int × Int) := (List.range k).filterMap (ndEnt cs j)
theorem filterMap_one (cs : List In) (i j : Nat) : ∀ m, (dRow cs i m).filterMap (ndOf j) = if j < m then (ndEnt cs j i).toList else []
  | 0 => by simp [dRow]
  | m + 1 => by
    rw [dRow_succ, List.filterMap_append, filterMap_one cs i j m]
    by_cases h : j = m
    · subst h
      rw [if_neg (by omega), if_pos (by omega)]
      unfold dEnt ndEnt
      split <;> simp [ndOf]
    · have h2 : (dEnt cs i m).toList.filterMap (ndOf j) = [] := by
        unfold dEnt
        split
        · simp [ndOf]; omega
        · rfl
      rw [h2, List.append_nil]
      by_cases h3 : j < m
      · rw [if_pos h3, if_pos (by omega)]
      · rw [if_neg h3, if_neg (by omega)]
theorem ndF_all (cs : List In) {j : Nat} (hj : j < cs.length) : ∀ k, ndF (dAll cs k) j = ndL cs j k
  | 0 => rfl
  | k + 1 => by
    rw [← dSt_end]
    unfold dSt ndF
    rw [List.filterMap_append, filterMap_one, if_pos hj]
    have := ndF_all cs hj k
    unfold ndF at this
    rw [this]
    unfold ndL
    rw [List.range_succ, List.filterMap_append]
    cases h : ndEnt cs j k <;> simp [h]
/-- The needs of all instructions. -/
def nds (cs : List In) : List (List (Int × Int)) := (List.range cs.length).map fun j => ndL cs j cs.length
def ndsAt (cs : List In) (p : Nat) : List (List (Int × Int)) := (List.range cs.length).map fun j => ndF ((dAll cs cs.length).take p) j
theorem nds_len (cs : List In) : (nds cs).length = cs.length := by simp [nds]
theorem ndsAt_len (cs : List In) (p : Nat) : (ndsAt cs p).length = cs.length := by simp [ndsAt]
theorem ndsAt_zero (cs : List In) : ndsAt cs 0 = List.replicate cs.length [] := by
  unfold ndsAt
  rw [List.take_zero]
  show (List.range cs.length).map (fun _ => []) = _
  rw [List.map_const']; simp
theorem ndsAt_end (cs : List In) : ndsAt cs (dAll cs cs.length).length = nds cs := by
  unfold ndsAt nds
  rw [List.take_length]
  refine List.map_congr_left fun j hj => ndF_all cs (by simpa using hj) _
theorem ndF_snoc {ds : List (List Int)} {p : Nat} (h : p < ds.length) (j : Nat) : ndF (ds.take (p + 1)) j = ndF (ds.take p) j ++ (ndOf j ds[p]).toList := by
  unfold ndF
  rw [List.take_succ_eq_append_getElem h, List.filterMap_append]
  cases e : ndOf j ds[p] <;> simp [e]
theorem ndsAt_at {cs : List In} {p q : Nat} (h : q < (ndsAt cs p).length) : (ndsAt cs p)[q] = ndF ((dAll cs cs.length).take p) q := by simp [ndsAt]
theorem ndsAt_succ {cs : List In} {p : Nat} (h : p < (dAll cs cs.length).length) : ∃ i j : Nat, i < j ∧ j < cs.length ∧ 0 ≤ dT cs i j ∧ (dAll cs cs.length)[p] = [(i : Int), (j : Int), dT cs i j] ∧
    ndsAt cs (p + 1) = (ndsAt cs p).set j ((ndsAt cs p).getD j [] ++ [((i : Int), dT cs i j)]) := by
  obtain ⟨i, j, h1, h2, h3, h4⟩ := mem_dAll (List.getElem_mem h)
  refine ⟨i, j, dT_lt_of h3, h2, h3, h4, ?_⟩
  refine List.ext_getElem (by simp [ndsAt]) fun q q1 q2 => ?_
  rw [List.getElem_set, ndsAt_at, ndsAt_at, ndF_snoc h, h4]
  have hjl : j < (ndsAt cs p).length := by rw [ndsAt_len]; exact h2
  by_cases e : j = q
  · subst e
    rw [if_pos rfl, List.getD_eq_getElem?_getD, List.getElem?_eq_getElem hjl, Option.getD_some, ndsAt_at]
    simp [ndOf]
  · rw [if_neg e]
    have : ndOf (q : Int) [(i : Int), (j : Int), dT cs i j] = none := by unfold ndOf; rw [if_neg (by simp; omega)]
    rw [this]; simp
theorem nds_at {cs : List In} {j : Nat} (h : j < (nds cs).length) : (nds cs)[j] = ndL cs j cs.length := by simp [nds]
theorem mem_ndL {cs : List In} {j k : Nat} {d : Int × Int} (h : d ∈ ndL cs j k) : ∃ i : Nat, i < j ∧ i < k ∧ 0 ≤ dT cs i j ∧ d = ((i : Int), dT cs i j) := by
  unfold ndL at h
  rw [List.mem_filterMap] at h
  obtain ⟨i, hi, he⟩ := h
  unfold ndEnt at he
  split at he
  · rename_i h0
    exact ⟨i, dT_lt_of h0, by simpa using hi, h0, by injection he with he; exact he.symm⟩
  · cases he
theorem ndL_len (cs : List In) (j k : Nat) : (ndL cs j k).length ≤ k := by
  unfold ndL
  exact Nat.le_trans (List.length_filterMap_le _ _) (by simp)
def orGood (cs : List In) : Bool := decide (cs.length ≤ 20) && okCode cs
theorem orGood_no1 {cs : List In} (h : ¬ cs.length ≤ 20) : orGood cs = false := by simp [orGood, h]
theorem orGood_no2 {cs : List In} (h : okCode cs = false) : orGood cs = false := by simp [orGood, h]
theorem orGood_yes {cs : List In} (h1 : cs.length ≤ 20) (h2 : okCode cs = true) : orGood cs = true := by simp [orGood, h1, h2]
theorem orGood_parts {cs : List In} (h : orGood cs = true) : cs.length ≤ 20 ∧ ∀ x ∈ cs, goodIn x = true := by
  unfold orGood at h
  rw [Bool.and_eq_true] at h
  exact ⟨of_decide_eq_true h.1, okCode_all h.2⟩
end Go.Proofs.Ytaaloepoegehkaa
