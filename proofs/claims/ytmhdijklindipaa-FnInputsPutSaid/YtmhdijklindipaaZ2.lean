/- Texts of this proof, one behind the other: XA, XQ, XH, IB, XK, XL. -/
import Derived.Test.YtmhdijklindipaaZ11
import Derived.Test.YtmhdijklindipaaZ9
import Derived.Test.YtmhdijklindipaaZ3
import Derived.Test.YtmhdijklindipaaZ4
import Derived.Test.YtmhdijklindipaaZ8
import Derived.WalkKit
import Derived.WalkSpells
import Derived.WalkLawsBesides
import Derived.Deep.RegionHeld3
import Derived.Lib.Hide
import Derived.Test.YtmhdijklindipaaK2
import Derived.Outline
import Derived.Test.YtmhdijklindipaaV3
import Derived.Test.YtmhdijklindipaaZ10
/- PutInput: what it answers. No program. -/
namespace Go.Proofs.Ytmhdijklindipaa
open Go.RowKit
set_option linter.unusedVariables false

/-- The nodes so far, and where the nodes seen stand. -/
def pst (es f : List Nd) (k : Int) : Nat → List Nd × List Int
  | 0 => (f, zeros es.length)
  | i + 1 => if isInp (es.getD i zeroNd) k = true then ((pst es f k i).1, (pst es f k i).2.set i ((f.length : Int) - 1)) else ((pst es f k i).1 ++ [moved (es.getD i zeroNd) (pst es f k i).2], (pst es f k i).2.set i ((pst es f k i).1.length : Int))
def po (es f : List Nd) (k : Int) (i : Nat) : List Nd := (pst es f k i).1
def pq (es f : List Nd) (k : Int) (i : Nat) : List Int := (pst es f k i).2
theorem po_zero (es f : List Nd) (k : Int) : po es f k 0 = f := rfl
theorem pq_zero (es f : List Nd) (k : Int) : pq es f k 0 = zeros es.length := rfl
theorem pst_yes {es f : List Nd} {k : Int} {i : Nat} (hi : i < es.length) (h : isInp es[i] k = true) : po es f k (i + 1) = po es f k i ∧ pq es f k (i + 1) = (pq es f k i).set i ((f.length : Int) - 1) := by
  have e : es.getD i zeroNd = es[i] := by rw [List.getD_eq_getElem?_getD, List.getElem?_eq_getElem hi]; rfl
  unfold po pq; rw [pst, e, if_pos h]; exact ⟨rfl, rfl⟩
theorem pst_no {es f : List Nd} {k : Int} {i : Nat} (hi : i < es.length) (h : isInp es[i] k = false) : po es f k (i + 1) = po es f k i ++ [moved es[i] (pq es f k i)] ∧ pq es f k (i + 1) = (pq es f k i).set i ((po es f k i).length : Int) := by
  have e : es.getD i zeroNd = es[i] := by rw [List.getD_eq_getElem?_getD, List.getElem?_eq_getElem hi]; rfl
  unfold po pq; rw [pst, e, if_neg (by rw [h]; decide)]; exact ⟨rfl, rfl⟩
theorem pq_len (es f : List Nd) (k : Int) : ∀ i, (pq es f k i).length = es.length := by
  intro i
  induction i with
  | zero => simp [pq, pst, zeros]
  | succ i ih =>
    unfold pq at ih ⊢; rw [pst]; split
    · simp only [List.length_set]; exact ih
    · simp only [List.length_set]; exact ih
theorem po_len (es f : List Nd) (k : Int) : ∀ i, f.length ≤ (po es f k i).length ∧ (po es f k i).length ≤ f.length + i := by
  intro i
  induction i with
  | zero => simp [po, pst]
  | succ i ih =>
    unfold po at ih ⊢; rw [pst]; split
    · exact ⟨ih.1, Nat.le_trans ih.2 (by omega)⟩
    · simp only [List.length_append, List.length_cons, List.length_nil]; omega
theorem po_mono (es f : List Nd) (k : Int) (i d : Nat) : (po es f k i).length ≤ (po es f k (i + d)).length := by
  induction d with
  | zero => exact Nat.le_refl _
  | succ d ih =>
    refine Nat.le_trans ih ?_
    rw [← Nat.add_assoc]
    unfold po; rw [pst]; split
    · exact Nat.le_refl _
    · simp
theorem po_over {es f : List Nd} {k : Int} {i : Nat} (hi : i ≤ es.length) (h : 24 < (po es f k i).length) : 24 < (po es f k es.length).length := by
  have := po_mono es f k i (es.length - i)
  rw [Nat.add_sub_cancel' hi] at this; omega
def putOk (es : List Nd) (k : Int) (f : List Nd) : Bool := good es && good f && inR k 0 1 && (!hasIn es k || decide ((po es f k es.length).length ≤ 24))
def putR (es : List Nd) (k : Int) (f : List Nd) : List Nd := if putOk es k f = true then (if hasIn es k = true then po es f k es.length else es) else []
theorem putR_no {es f : List Nd} {k : Int} (h : putOk es k f = false) : putR es k f = [] := by unfold putR; rw [h]; rfl
end Go.Proofs.Ytmhdijklindipaa

/- Plain facts of FnInputsPut. -/
namespace Go.Proofs.Ytmhdijklindipaa
open Go.RowKit
set_option linter.unusedVariables false

theorem psum_none {j : Nat} : ∀ {ps : List Int}, (∀ p ∈ ps, p.toNat ≠ j) → psum (fun k => if k = j then (1 : Int) else 0) ps = 0
  | [], _ => rfl
  | p :: ps, h => by
    have ih := psum_none (j := j) (ps := ps) fun q hq => h q (by simp [hq])
    have h1 := h p (by simp)
    simp only [psum, List.map_cons, List.sum_cons] at ih ⊢
    rw [if_neg h1, ih]; rfl
theorem used_of {es : List Nd} (hok : okFrom es 0 = true) {j : Nat} (hj : j < es.length) (h : (uses es).getD j 0 ≠ 0) : ∃ i, ∃ hi : i < es.length, (j : Int) ∈ parts es[i] := by
  by_cases hx : ∃ i, ∃ hi : i < es.length, (j : Int) ∈ parts es[i]
  · exact hx
  · exfalso; apply h
    have hp : ∀ k (h : k < es.length), ∀ p ∈ parts es[k], p.toNat < es.length := fun k h p hp => by have := (parts_in (ok_get hok h) p hp).2; omega
    have hU := nsum_uses (fun k => if k = j then (1 : Int) else 0) hp es.length (Nat.le_refl _)
    rw [nsum_ind (fun k => (usesAt es es.length).getD k 0) j, if_pos hj] at hU
    rw [nsum_congr es.length (h := fun _ => 0) (fun i hi => ?_), nsum_zero] at hU
    · unfold uses; exact hU
    · rw [getD_nd hi]
      refine psum_none fun p hp' e => hx ⟨i, hi, ?_⟩
      have := (parts_in (ok_get hok hi) p hp').1
      rw [show (j : Int) = p by omega]; exact hp'
theorem good_used {es : List Nd} (hg : good es = true) : (uses es).length = es.length ∧ (∀ j, j + 1 < es.length → (uses es).getD j 0 ≠ 0) ∧ (uses es).getD (es.length - 1) 0 = 0 ∧ (tree es = true → ∀ j, (uses es).getD j 0 ≤ 1) := by
  obtain ⟨h1, h24, hok⟩ := good_len hg
  have hlen : (uses es).length = es.length := usesAt_len _ _
  refine ⟨hlen, fun j hj e => ?_, ?_, fun ht j => ?_⟩
  · have hh : hasI ((uses es).take (es.length - 1)) 0 = false := by
      simp only [good, Bool.and_eq_true, Bool.not_eq_true'] at hg; exact hg.2
    unfold hasI at hh
    rw [List.any_eq_false] at hh
    have hmem : (uses es).getD j 0 ∈ (uses es).take (es.length - 1) := by
      rw [List.getD_eq_getElem?_getD, List.getElem?_eq_getElem (by omega), Option.getD_some, List.mem_take_iff_getElem]
      exact ⟨j, by omega, rfl⟩
    have := hh _ hmem
    rw [e] at this; simp at this
  · by_cases h : (uses es).getD (es.length - 1) 0 = 0
    · exact h
    · obtain ⟨i, hi, hm⟩ := used_of hok (show es.length - 1 < es.length by omega) h
      have := (parts_in (ok_get hok hi) _ hm).2
      rw [Int.toNat_natCast] at this; omega
  · unfold tree allR at ht
    rw [List.all_eq_true] at ht
    rcases Nat.lt_or_ge j (uses es).length with h | h
    · have hm : (uses es).getD j 0 ∈ uses es := by rw [List.getD_eq_getElem?_getD, List.getElem?_eq_getElem h]; exact List.getElem_mem _
      exact ((inR_iff _ _ _).1 (ht _ hm)).2
    · rw [List.getD_eq_getElem?_getD, List.getElem?_eq_none h]; decide
theorem used_in {es : List Nd} (hg : good es = true) {j : Nat} (hj : j + 1 < es.length) : ∃ i, ∃ hi : i < es.length, j < i ∧ (j : Int) ∈ parts es[i] := by
  obtain ⟨h1, h24, hok⟩ := good_len hg
  obtain ⟨i, hi, hm⟩ := used_of hok (by omega) ((good_used hg).2.1 j hj)
  have := (parts_in (ok_get hok hi) _ hm).2
  rw [Int.toNat_natCast] at this
  exact ⟨i, hi, this, hm⟩

/-- The values behind the nodes seen so far. -/
structure PI (es f : List Nd) (k : Int) (i : Nat) : Prop where
  ok : okFrom (po es f k i) 0 = true
  pre : ∃ zs, po es f k i = f ++ zs
  at_ : ∀ j (hj : j < es.length), j < i → ∃ q : Nat, (pq es f k i).getD j 0 = q ∧ q < (po es f k i).length ∧
    (∀ x0 x1 : Int, (tmE (po es f k i) q).ev x0 x1 = (tmE es j).ev (if k = 1 then x0 else (tmE f (f.length - 1)).ev x0 x1) (if k = 1 then (tmE f (f.length - 1)).ev x0 x1 else x1)) ∧
    (∀ p ∈ parts es[j], ∃ s : Nat, (pq es f k i).getD p.toNat 0 = s ∧ (s : Int) ∈ parts ((po es f k i).getD q zeroNd)) ∧ (isInp es[j] k = true → q + 1 = f.length) ∧ (isInp es[j] k = false → j + 1 = i → q + 1 = (po es f k i).length)
  all : ∀ q, f.length ≤ q → q < (po es f k i).length → ∃ j, ∃ hj : j < es.length, j < i ∧ isInp es[j] k = false ∧ (pq es f k i).getD j 0 = (q : Int)
theorem put_inv {es f : List Nd} {k : Int} (hok : okFrom es 0 = true) (hk : k = 0 ∨ k = 1) (hf : okFrom f 0 = true) (hf1 : 1 ≤ f.length) : ∀ i, i ≤ es.length → PI es f k i
  | 0, _ => ⟨hf, ⟨[], by rw [po_zero, List.append_nil]⟩, fun j _ h => by omega, fun q h1 h2 => by rw [po_zero] at h2; omega⟩
  | i + 1, hi => by
    have I := put_inv (k := k) hok hk hf hf1 i (by omega)
    have hie : i < es.length := by omega
    have hpl := pq_len es f k i
    have hpp : ∀ j (hj : j < es.length), ∀ p ∈ parts es[j], p.toNat < j := fun j hj p hp => (parts_in (ok_get hok hj) p hp).2
    obtain ⟨z, hz⟩ := I.pre
    cases hb : isInp es[i] k
    · obtain ⟨e1, e2⟩ := pst_no hie hb
      have hat : ∀ p ∈ parts es[i], ∃ s : Nat, (pq es f k i).getD p.toNat 0 = s ∧ s < (po es f k i).length ∧ ∀ x0 x1 : Int, (tmE (po es f k i) s).ev x0 x1 = (tmE es p.toNat).ev (if k = 1 then x0 else (tmE f (f.length - 1)).ev x0 x1) (if k = 1 then (tmE f (f.length - 1)).ev x0 x1 else x1) := fun p hp => by
        obtain ⟨q, h1, h2, h3, _⟩ := I.at_ p.toNat (by have := hpp i hie p hp; omega) (hpp i hie p hp)
        exact ⟨q, h1, h2, h3⟩
      have hplc := isNode_place (ok_get hok hie)
      have key : isNode (moved es[i] (pq es f k i)) ((po es f k i).length : Int) = true ∧ (∀ p ∈ parts es[i], ∃ s : Nat, (pq es f k i).getD p.toNat 0 = s ∧ (s : Int) ∈ parts (moved es[i] (pq es f k i))) ∧ ∀ hok2 : okFrom (po es f k i ++ [moved es[i] (pq es f k i)]) 0 = true, ∀ x0 x1 : Int, (tmE (po es f k i ++ [moved es[i] (pq es f k i)]) (po es f k i).length).ev x0 x1 = (tmE es i).ev (if k = 1 then x0 else (tmE f (f.length - 1)).ev x0 x1) (if k = 1 then (tmE f (f.length - 1)).ev x0 x1 else x1) := by
        have hgl : ∀ (h : (po es f k i).length < (po es f k i ++ [moved es[i] (pq es f k i)]).length), (po es f k i ++ [moved es[i] (pq es f k i)])[(po es f k i).length]'h = moved es[i] (pq es f k i) := fun h => by rw [List.getElem_append_right (Nat.le_refl _)]; simp
        have hlt : (po es f k i).length < (po es f k i ++ [moved es[i] (pq es f k i)]).length := by simp
        rcases tmE_cases hok hie with ⟨h1, ha0, hb0, et⟩ | ⟨h1, h2, a, ea, ha, hb', et⟩ | ⟨h1, h2, h3, a, b, ea, eb, ha, hb', et⟩
        · have em : moved es[i] (pq es f k i) = ⟨es[i].op, 0, 0, es[i].v⟩ := by unfold moved; rw [if_neg (by omega), if_neg (by omega)]
          have hp0 : parts es[i] = [] := by
            rcases ar_cases_nd (ok_get hok hie) with ⟨_, g, g2, _⟩ | ⟨g, _⟩ | ⟨g, _⟩
            · unfold parts; rw [g, g2]; rfl
            · omega
            · omega
          refine ⟨by rw [em]; exact hplc.1 h1 _, fun p hp => (by rw [hp0] at hp; cases hp), fun hok2 x0 x1 => ?_⟩
          have et2 : tmE (po es f k i ++ [moved es[i] (pq es f k i)]) (po es f k i).length = .l es[i].op es[i].v := by
            rcases tmE_cases hok2 hlt with ⟨_, _, _, e⟩ | ⟨g, _⟩ | ⟨g, _⟩
            · rw [e, hgl, em]
            · rw [hgl, em] at g; simp only at g; omega
            · rw [hgl, em] at g; simp only at g; omega
          rw [et2, et]
          unfold Tm.ev
          cases hc : isConst es[i].op
          · have hin := ar0_in h1 hc
            have hv : es[i].v ≠ k := fun e => by unfold isInp at hb; rw [hin, e] at hb; simp at hb
            have hv01 : es[i].v = 0 ∨ es[i].v = 1 := by
              rcases node_kinds (ok_get hok hie) with ⟨g, _⟩ | ⟨_, _, g⟩ | ⟨_, g, _⟩ | ⟨_, g, _⟩
              · unfold isConst at hc; rw [g] at hc; simp at hc
              · exact g
              · unfold isIn at hin; rw [g] at hin; cases hin
              · unfold isIn at hin; rw [g] at hin; cases hin
            simp only [Bool.false_eq_true, if_false]
            rcases hk with rfl | rfl
            · rw [if_neg (by omega), if_neg (by omega), if_neg (by omega)]
            · rw [if_pos (by omega), if_pos (by omega), if_pos (by omega)]
          · rfl
        · have hp0 : parts es[i] = [(a : Int)] := by unfold parts; rw [if_pos h2, ea]
          obtain ⟨s, s1, s2, s3⟩ := hat (a : Int) (by rw [hp0]; simp)
          rw [Int.toNat_natCast] at s1 s3
          have em : moved es[i] (pq es f k i) = ⟨es[i].op, (s : Int), 0, es[i].v⟩ := by unfold moved; rw [if_pos (by omega), if_neg (by omega), ea, Int.toNat_natCast, s1]
          refine ⟨by rw [em]; exact hplc.2.1 h1 _ _ (by omega) (by omega), fun p hp => ?_, fun hok2 x0 x1 => ?_⟩
          · rw [hp0] at hp; rw [List.mem_singleton.1 hp, Int.toNat_natCast]
            exact ⟨s, s1, by rw [em]; unfold parts; rw [if_pos h2]; simp⟩
          · rcases tmE_cases hok2 hlt with ⟨g, _⟩ | ⟨_, _, a', ea', ha', _, e⟩ | ⟨g, _⟩
            · rw [hgl, em] at g; simp only at g; omega
            · rw [hgl, em] at e ea'
              simp only at e ea'
              obtain rfl : a' = s := by omega
              rw [em, e, tmE_app I.ok s2, et]
              unfold Tm.ev; rw [s3]
            · rw [hgl, em] at g; simp only at g; omega
        · have hp0 : parts es[i] = [(a : Int), (b : Int)] := by unfold parts; rw [if_neg (by simp [h2]), if_pos h3, ea, eb]
          obtain ⟨s, s1, s2, s3⟩ := hat (a : Int) (by rw [hp0]; simp)
          obtain ⟨t, t1, t2, t3⟩ := hat (b : Int) (by rw [hp0]; simp)
          rw [Int.toNat_natCast] at s1 s3 t1 t3
          have em : moved es[i] (pq es f k i) = ⟨es[i].op, (s : Int), (t : Int), es[i].v⟩ := by unfold moved; rw [if_pos (by omega), if_pos (by omega), ea, eb, Int.toNat_natCast, Int.toNat_natCast, s1, t1]
          refine ⟨by rw [em]; exact hplc.2.2 h1 _ _ _ (by omega) (by omega) (by omega) (by omega), fun p hp => ?_, fun hok2 x0 x1 => ?_⟩
          · rw [hp0] at hp
            rcases List.mem_cons.1 hp with rfl | hp
            · rw [Int.toNat_natCast]; exact ⟨s, s1, by rw [em]; unfold parts; rw [if_neg (by simp [h2]), if_pos h3]; simp⟩
            · rw [List.mem_singleton.1 hp, Int.toNat_natCast]; exact ⟨t, t1, by rw [em]; unfold parts; rw [if_neg (by simp [h2]), if_pos h3]; simp⟩
          · rcases tmE_cases hok2 hlt with ⟨g, _⟩ | ⟨g, _⟩ | ⟨_, _, _, a', b', ea', eb', ha', hb'', e⟩
            · rw [hgl, em] at g; simp only at g; omega
            · rw [hgl, em] at g; simp only at g; omega
            · rw [hgl, em] at e ea' eb'
              simp only at e ea' eb'
              obtain rfl : a' = s := by omega
              obtain rfl : b' = t := by omega
              rw [em, e, tmE_app I.ok s2, tmE_app I.ok t2, et]
              unfold Tm.ev; rw [s3, t3]
      obtain ⟨k1, k2, k3⟩ := key
      have hok2 : okFrom (po es f k i ++ [moved es[i] (pq es f k i)]) 0 = true := by rw [okFrom_snoc, I.ok, Int.zero_add, k1]; rfl
      have k3 := k3 hok2
      refine ⟨by rw [e1]; exact hok2, ⟨z ++ [moved es[i] (pq es f k i)], by rw [e1, hz, List.append_assoc]⟩, fun j hj hji => ?_, fun q hq1 hq2 => ?_⟩
      · rw [e1, e2]
        by_cases e : j = i
        · subst e
          refine ⟨(po es f k j).length, ?_, by simp, k3, fun p hp => ?_, fun h => (by rw [hb] at h; cases h), fun _ _ => by simp⟩
          · rw [List.getD_eq_getElem?_getD, List.getElem?_set_self (by omega)]; rfl
          · obtain ⟨s, s1, s2⟩ := k2 p hp
            refine ⟨s, by rw [getD_set_lt _ (hpp j hj p hp)]; exact s1, ?_⟩
            have hl : (po es f k j ++ [moved es[j] (pq es f k j)]).getD (po es f k j).length zeroNd = moved es[j] (pq es f k j) := by rw [List.getD_eq_getElem?_getD, List.getElem?_append_right (Nat.le_refl _), Nat.sub_self]; rfl
            rw [hl]; exact s2
        · obtain ⟨q, q1, q2, q3, q4, q5, q6⟩ := I.at_ j hj (by omega)
          refine ⟨q, by rw [getD_set_lt _ (by omega)]; exact q1, by rw [List.length_append]; omega, fun x0 x1 => by rw [tmE_app I.ok q2]; exact q3 x0 x1, fun p hp => ?_, q5, fun _ h => by omega⟩
          obtain ⟨s, s1, s2⟩ := q4 p hp
          have h9 := hpp j hj p hp
          exact ⟨s, by rw [getD_set_lt _ (by omega)]; exact s1, by rw [app_get q2]; exact s2⟩
      · rw [e1, List.length_append, List.length_singleton] at hq2
        rw [e2]
        by_cases e : q < (po es f k i).length
        · obtain ⟨j, hj, hji, hjb, h⟩ := I.all q hq1 e
          exact ⟨j, hj, by omega, hjb, by rw [getD_set_lt _ (by omega)]; exact h⟩
        · obtain rfl : q = (po es f k i).length := by omega
          exact ⟨i, hie, by omega, hb, by rw [List.getD_eq_getElem?_getD, List.getElem?_set_self (by omega)]; rfl⟩
    · obtain ⟨e1, e2⟩ := pst_yes hie hb
      have hfl := pre_len hz
      refine ⟨by rw [e1]; exact I.ok, ⟨z, by rw [e1]; exact hz⟩, fun j hj hji => ?_, fun q hq1 hq2 => ?_⟩
      · rw [e1, e2]
        by_cases e : j = i
        · subst e
          have hin : isIn es[j].op = true ∧ es[j].v = k := by unfold isInp at hb; simpa using hb
          have hop : es[j].op.toList = [105, 110] := by have := hin.1; unfold isIn at this; simpa using this
          have hc : isConst es[j].op = false := by unfold isConst; rw [hop]; rfl
          have h0 : ar es[j].op = 0 := by unfold ar; rw [hin.1]; rfl
          have hp0 : parts es[j] = [] := by
            rcases ar_cases_nd (ok_get hok hj) with ⟨_, g, g2, _⟩ | ⟨g, _⟩ | ⟨g, _⟩
            · unfold parts; rw [g, g2]; rfl
            · omega
            · omega
          have et : tmE es j = .l es[j].op es[j].v := by
            rcases tmE_cases hok hj with ⟨_, _, _, e⟩ | ⟨g, _⟩ | ⟨g, _⟩
            · exact e
            · omega
            · omega
          refine ⟨f.length - 1, ?_, by omega, fun x0 x1 => ?_, fun p hp => (by rw [hp0] at hp; cases hp), fun _ => by omega, fun h => (by rw [hb] at h; cases h)⟩
          · rw [List.getD_eq_getElem?_getD, List.getElem?_set_self (by omega)]
            show (f.length : Int) - 1 = _
            omega
          · rw [pre_tm hf hz (show f.length - 1 < f.length by omega), et]
            generalize (tmE f (f.length - 1)).ev x0 x1 = vf
            unfold Tm.ev
            rw [hc, hin.2]
            simp only [Bool.false_eq_true, if_false]
            rcases hk with rfl | rfl
            · simp
            · simp
        · obtain ⟨q, q1, q2, q3, q4, q5, q6⟩ := I.at_ j hj (by omega)
          refine ⟨q, by rw [getD_set_lt _ (by omega)]; exact q1, q2, q3, fun p hp => ?_, q5, fun _ h => by omega⟩
          obtain ⟨s, s1, s2⟩ := q4 p hp
          have h9 := hpp j hj p hp
          exact ⟨s, by rw [getD_set_lt _ (by omega)]; exact s1, s2⟩
      · rw [e1] at hq2
        rw [e2]
        obtain ⟨j, hj, hji, hjb, h⟩ := I.all q hq1 hq2
        exact ⟨j, hj, by omega, hjb, by rw [getD_set_lt _ (by omega)]; exact h⟩
/-- A leaf that is the root is all there is. -/
theorem leaf_root {es : List Nd} (hg : good es = true) (h : parts (es.getD (es.length - 1) zeroNd) = []) : es.length = 1 := by
  obtain ⟨h1, _, hok⟩ := good_len hg
  rcases Nat.lt_or_ge 1 es.length with h2 | h2
  · obtain ⟨i, hi, hlt, hm⟩ := used_in hg (show es.length - 2 + 1 < es.length by omega)
    obtain rfl : i = es.length - 1 := by omega
    rw [getD_nd hi] at h
    rw [h] at hm; cases hm
  · omega
/-- What stands behind an input's replacement: good, and evaluated there first. -/
theorem put_ev {es f : List Nd} {k : Int} (h : putOk es k f = true) : good (putR es k f) = true ∧ good es = true ∧ good f = true ∧ (k = 0 ∨ k = 1) ∧
    ∀ x0 x1 : Int, (tmE (putR es k f) ((putR es k f).length - 1)).ev x0 x1 = (tmE es (es.length - 1)).ev (if k = 1 then x0 else (tmE f (f.length - 1)).ev x0 x1) (if k = 1 then (tmE f (f.length - 1)).ev x0 x1 else x1) := by
  have h0 := h
  unfold putOk at h0
  simp only [Bool.and_eq_true, Bool.or_eq_true, Bool.not_eq_true'] at h0
  obtain ⟨⟨⟨hge, hgf⟩, hk⟩, hlen⟩ := h0
  have hk := (inR_iff _ _ _).1 hk
  have hk01 : k = 0 ∨ k = 1 := by omega
  obtain ⟨le, e24, hoe⟩ := good_len hge
  obtain ⟨lf, f24, hof⟩ := good_len hgf
  refine ⟨?_, hge, hgf, hk01, ?_⟩
  all_goals cases hin : hasIn es k
  · have e : putR es k f = es := by unfold putR; rw [if_pos h, if_neg (by rw [hin]; decide)]
    rw [e]; exact hge
  · have e : putR es k f = po es f k es.length := by unfold putR; rw [if_pos h, if_pos hin]
    have h24 : (po es f k es.length).length ≤ 24 := by
      rcases hlen with h9 | h9
      · rw [hin] at h9; cases h9
      · exact of_decide_eq_true h9
    have I := put_inv (k := k) hoe hk01 hof lf es.length (Nat.le_refl _)
    obtain ⟨z, hz⟩ := I.pre
    have hfl := pre_len hz
    rw [e]
    refine good_of (by omega) h24 I.ok fun q hq => ?_
    -- what is used in the expression is used in its place
    have huse : ∀ j (hj : j < es.length), j + 1 < es.length → (pq es f k es.length).getD j 0 = (q : Int) → ∃ i, i < (po es f k es.length).length ∧ (q : Int) ∈ parts ((po es f k es.length).getD i zeroNd) := fun j hj hj1 hjq => by
      obtain ⟨i, hi, _, hm⟩ := used_in hge hj1
      obtain ⟨p, p1, p2, p3, p4, _⟩ := I.at_ i hi hi
      obtain ⟨s, s1, s2⟩ := p4 _ hm
      rw [Int.toNat_natCast, hjq] at s1
      exact ⟨p, p2, by rw [s1]; exact s2⟩
    -- the root stands last
    have hroot : isInp (es[es.length - 1]'(by omega)) k = true → es.length = 1 ∧ (po es f k es.length).length = f.length := fun hr => by
      have hpn : parts (es.getD (es.length - 1) zeroNd) = [] := by
        rw [getD_nd (show es.length - 1 < es.length by omega)]
        have hin2 : isIn (es[es.length - 1]'(by omega)).op = true := by unfold isInp at hr; rw [Bool.and_eq_true] at hr; exact hr.1
        have h0 : ar (es[es.length - 1]'(by omega)).op = 0 := by unfold ar; rw [hin2]; rfl
        rcases ar_cases_nd (ok_get hoe (show es.length - 1 < es.length by omega)) with ⟨_, g, g2, _⟩ | ⟨g, _⟩ | ⟨g, _⟩
        · unfold parts; rw [g, g2]; rfl
        · omega
        · omega
      have h1 := leaf_root hge hpn
      refine ⟨h1, ?_⟩
      have hr0 : isInp (es[0]'(by omega)) k = true := by
        have : (es[es.length - 1]'(by omega)) = (es[0]'(by omega)) := by congr 1; omega
        rw [this] at hr; exact hr
      have := (pst_yes (f := f) (show 0 < es.length by omega) hr0).1
      rw [h1, this, po_zero]
    rcases Nat.lt_or_ge q (f.length - 1) with h1 | h1
    · obtain ⟨i, hi, _, hm⟩ := used_in hgf (show q + 1 < f.length by omega)
      exact ⟨i, by omega, by rw [pre_get hz hi, getD_nd hi]; exact hm⟩
    · rcases Nat.lt_or_ge q f.length with h2 | h2
      · -- the root of what is put
        have hex : ∃ j, ∃ hj : j < es.length, isInp es[j] k = true := by
          unfold hasIn at hin
          rw [List.any_eq_true] at hin
          obtain ⟨n, hn, hnk⟩ := hin
          obtain ⟨j, hj, rfl⟩ := List.getElem_of_mem hn
          exact ⟨j, hj, hnk⟩
        obtain ⟨j, hj, hjk⟩ := hex
        have hj1 : j + 1 < es.length := by
          rcases Nat.lt_or_ge (j + 1) es.length with h | h
          · exact h
          · obtain rfl : j = es.length - 1 := by omega
            have := (hroot hjk).2; omega
        obtain ⟨p, p1, p2, p3, p4, p5, _⟩ := I.at_ j hj hj
        have := p5 hjk
        exact huse j hj hj1 (by rw [p1]; omega)
      · obtain ⟨j, hj, _, hjk, hjq⟩ := I.all q h2 (by omega)
        have hj1 : j + 1 < es.length := by
          rcases Nat.lt_or_ge (j + 1) es.length with h | h
          · exact h
          · obtain ⟨p, p1, p2, p3, p4, p5, p6⟩ := I.at_ j hj hj
            have := p6 hjk (by omega); omega
        exact huse j hj hj1 hjq
  · have e : putR es k f = es := by unfold putR; rw [if_pos h, if_neg (by rw [hin]; decide)]
    rw [e]
    intro x0 x1
    -- an expression without the input does not look at it
    have hno : ∀ j (hj : j < es.length), isInp es[j] k = false := fun j hj => by
      unfold hasIn at hin
      rw [List.any_eq_false] at hin
      have := hin _ (List.getElem_mem hj)
      simpa using this
    have hall : ∀ n j, j < n → j < es.length → (tmE es j).ev x0 x1 = (tmE es j).ev (if k = 1 then x0 else (tmE f (f.length - 1)).ev x0 x1) (if k = 1 then (tmE f (f.length - 1)).ev x0 x1 else x1) := by
      intro n
      induction n with
      | zero => intro j h; omega
      | succ n ih =>
        intro j hjn hj
        rcases tmE_cases hoe hj with ⟨h1, _, _, et⟩ | ⟨h1, h2, a, ea, ha, _, et⟩ | ⟨h1, h2, h3, a, b, ea, eb, ha, hb, et⟩
        · rw [et]; unfold Tm.ev
          cases hc : isConst es[j].op
          · have hin2 := ar0_in h1 hc
            have hv : es[j].v ≠ k := fun e => by have := hno j hj; unfold isInp at this; rw [hin2, e] at this; simp at this
            have hv01 : es[j].v = 0 ∨ es[j].v = 1 := by
              rcases node_kinds (ok_get hoe hj) with ⟨g, _⟩ | ⟨_, _, g⟩ | ⟨_, g, _⟩ | ⟨_, g, _⟩
              · unfold isConst at hc; rw [g] at hc; simp at hc
              · exact g
              · unfold isIn at hin2; rw [g] at hin2; cases hin2
              · unfold isIn at hin2; rw [g] at hin2; cases hin2
            simp only [Bool.false_eq_true, if_false]
            rcases hk01 with rfl | rfl
            · rw [if_neg (by omega), if_neg (by omega), if_neg (by omega)]
            · rw [if_pos (by omega), if_pos (by omega), if_pos (by omega)]
          · rfl
        · rw [et]; unfold Tm.ev; rw [ih a (by omega) (by omega)]
        · rw [et]; unfold Tm.ev; rw [ih a (by omega) (by omega), ih b (by omega) (by omega)]
    exact hall es.length (es.length - 1) (by omega) (by omega)
  · have e : putR es k f = po es f k es.length := by unfold putR; rw [if_pos h, if_pos hin]
    have I := put_inv (k := k) hoe hk01 hof lf es.length (Nat.le_refl _)
    obtain ⟨z, hz⟩ := I.pre
    have hfl := pre_len hz
    rw [e]
    intro x0 x1
    obtain ⟨q, q1, q2, q3, q4, q5, q6⟩ := I.at_ (es.length - 1) (by omega) (by omega)
    have hq : q = (po es f k es.length).length - 1 := by
      cases hr : isInp (es[es.length - 1]'(by omega)) k
      · have := q6 hr (by omega); omega
      · have h1 := q5 hr
        have hpn : parts (es.getD (es.length - 1) zeroNd) = [] := by
          rw [getD_nd (show es.length - 1 < es.length by omega)]
          have hin2 : isIn (es[es.length - 1]'(by omega)).op = true := by unfold isInp at hr; rw [Bool.and_eq_true] at hr; exact hr.1
          have h0 : ar (es[es.length - 1]'(by omega)).op = 0 := by unfold ar; rw [hin2]; rfl
          rcases ar_cases_nd (ok_get hoe (show es.length - 1 < es.length by omega)) with ⟨_, g, g2, _⟩ | ⟨g, _⟩ | ⟨g, _⟩
          · unfold parts; rw [g, g2]; rfl
          · omega
          · omega
        have h2 := leaf_root hge hpn
        have hr0 : isInp (es[0]'(by omega)) k = true := by
          have : (es[es.length - 1]'(by omega)) = (es[0]'(by omega)) := by congr 1; omega
          rw [this] at hr; exact hr
        have h3 := (pst_yes (f := f) (show 0 < es.length by omega) hr0).1
        rw [h2, h3, po_zero]; omega
    rw [← hq]; exact q3 x0 x1
end Go.Proofs.Ytmhdijklindipaa

/- ExpandExpr: the program. -/
namespace Go.Proofs.Ytmhdijklindipaa
open Go.RowKit
set_option linter.unusedVariables false
set_option maxRecDepth 100000

theorem expWalk_enters (args : Array Value) (W : World) : Sem.run Try.prog (callFunc 206 args) W = .ok (.enter 206 args) W := by rfl

set_option maxHeartbeats 4000000 in
theorem expWalk_any (L0 B q L C : Nat) (A : Option Addr) (c : Nat) (es : List Nd) (w0 : World) (hl : es.length ≤ 24) (hok : okFrom es 0 = true) (hes : NS w0 L0 B A es) (hBC : B ≤ C) (hC : C ≤ w0.heap.size) (hCq : C ≤ q) (hCL : C ≤ L) (hL : L ≤ w0.heap.size) :
    ∀ (F i : Nat) (s : List Nd × Bool) (v : Value) (W : World), i < F → i < es.length → Below C w0 W → GS 170 [.slice A es.length c] q L s.1 s.2 v W →
    Calls Try.prog 206 #[.pointer (some ⟨q, 0, none⟩), .int .i64 i] W fun e w' => e = .returned (.int .i64 (ew es F i s).2) ∧ GP 170 [.slice A es.length c] q L v W (ew es F i s).1 w' := by
  intro F
  induction F with
  | zero => intro i s v W hi; omega
  | succ F ih =>
    intro i s v W hi hie hb hs
    obtain ⟨xs, fl⟩ := s
    dsimp only at hs
    cases fl with
    | true =>
      rw [ew_failed]
      have c1 := hs.c1
      have G := Lib.hid (GP.refl hs)
      clear hs ih hb hes
      go_enter Try.func206, Try.ntmps206
      go_wp2
      go_ret
      exact ⟨rfl, G.out⟩
    | false =>
      have hE : ew es (F + 1) i (xs, false) = bp (woN (ew es F) es[i] (xs, false)).1 (woN (ew es F) es[i] (xs, false)).2 := by rw [ew, if_neg (by simp), getD_nd hie]
      rw [hE]
      have hnd := ok_get hok hie
      obtain ⟨b, o, hA, ⟨_, hbB⟩, hcc⟩ := (hes.below hb hBC) (by omega)
      obtain ⟨c1, c2, c3, c4⟩ := hcc i hie
      subst hA
      have hbs := hb.size
      have hWO := Lib.hid fun (W' : World) (hW : Below W.heap.size W W') => withOperands_gen 206 (ew es F) 170 [.slice (some ⟨b, o, none⟩) es.length c] q L C i es[i] (xs, false) v w0 W' hnd hC hCq hCL (hb.trans (hW.mono (by omega))) (hs.next hW) expWalk_enters (fun a s v W1 ha hb1 hs1 => ih a s v W1 (by omega) (by omega) hb1 hs1)
      have hPut := Lib.hid fun (s' : List Nd × Bool) (v' : Value) (y : Nd) (W' : World) (hz : W.heap.size ≤ W'.heap.size) (h' : GS 170 [.slice (some ⟨b, o, none⟩) es.length c] q L s'.1 s'.2 v' W') => put_gen 170 [.slice (some ⟨b, o, none⟩) es.length c] q L s' v' y W' (by omega) h'
      have q1 := hs.c1
      have q2 := hs.c2
      have k0 : (0 : Int) ≤ (i : Int) := by omega
      have k1 : (i : Int) < (es.length : Int) := by omega
      have hfar := Lib.hid fun (W3 : World) (f3 : Fr q v.ownBlock W W3) => (hb.trans (f3.below (B := C) (by omega) hCq (fun j hj => Nat.le_trans hCL (hs.own j hj).1)) : Below C w0 W3)
      have hnode := Lib.hid fun (W3 : World) (h3 : Below C w0 W3) => show W3.cell? ⟨b, o + i * 4, none⟩ = W.cell? ⟨b, o + i * 4, none⟩ ∧ W3.cell? ⟨b, o + i * 4 + 1, none⟩ = W.cell? ⟨b, o + i * 4 + 1, none⟩ ∧ W3.cell? ⟨b, o + i * 4 + 2, none⟩ = W.cell? ⟨b, o + i * 4 + 2, none⟩ ∧ W3.cell? ⟨b, o + i * 4 + 3, none⟩ = W.cell? ⟨b, o + i * 4 + 3, none⟩ from
        ⟨(h3.cell (p := ⟨b, _, none⟩) (by show b < C; omega)).trans (hb.cell (p := ⟨b, _, none⟩) (by show b < C; omega)).symm, (h3.cell (p := ⟨b, _, none⟩) (by show b < C; omega)).trans (hb.cell (p := ⟨b, _, none⟩) (by show b < C; omega)).symm, (h3.cell (p := ⟨b, _, none⟩) (by show b < C; omega)).trans (hb.cell (p := ⟨b, _, none⟩) (by show b < C; omega)).symm, (h3.cell (p := ⟨b, _, none⟩) (by show b < C; omega)).trans (hb.cell (p := ⟨b, _, none⟩) (by show b < C; omega)).symm⟩
      have hGt := Lib.hid fun (v3 : Value) (W3 W4 : World) (s4 : List Nd × Bool) (f3 : Fr q v.ownBlock W W3) (o3 : ∀ j, v3.ownBlock = some j → v.ownBlock = some j ∨ W.heap.size ≤ j) (g4 : GP 170 [.slice (some ⟨b, o, none⟩) es.length c] q L v3 W3 s4 W4) => GP.trans f3 o3 g4
      clear ih hcc hs hes hE
      generalize woN (ew es F) es[i] (xs, false) = r at *
      generalize es[i] = nd at *
      obtain ⟨s3, op3, a3, b3, x3⟩ := r
      obtain ⟨op, a, bb, x⟩ := nd
      dsimp only at hWO hnode c1 c2 c3 c4 ⊢
      go_enter Try.func206, Try.ntmps206
      go_wp2_with (fail)
      go_region_held3 (fun w' => w'.cell? ⟨q, 2, none⟩ = some (.slice (some ⟨b, o, none⟩) es.length c) ∧ w'.cell? ⟨b, o + i * 4, none⟩ = some (.string op) ∧ w'.cell? ⟨b, o + i * 4 + 1, none⟩ = some (.int .i64 a) ∧ w'.cell? ⟨b, o + i * 4 + 2, none⟩ = some (.int .i64 bb) ∧ w'.cell? ⟨b, o + i * 4 + 3, none⟩ = some (.int .i64 x))
        (first | assumption | exact ⟨keepQ, keep0, keep1, keep2, keep3⟩ | exact ⟨lastQ, last0, last1, last2, last3⟩ | go_keep)
        (first
          | (go_at_call 253; refine (hWO.out _ (by first | exact Below.refl _ _ | exact (Below.refl _ _).drew)).mono ?_; rintro e w3 ⟨rfl, v3, g3, f3', o3'⟩; have f3 : Fr q v.ownBlock W w3 := (by first | exact f3' | exact (Fr.refl q _ W).drew.trans f3' (fun j hj => .inl hj)); have o3 : ∀ j, v3.ownBlock = some j → v.ownBlock = some j ∨ W.heap.size ≤ j := o3'; have hz3 := f3.size; have keepQ := g3.c2; obtain ⟨n0, n1, n2, n3⟩ := hnode.out w3 (hfar.out w3 f3); have keep0 := n0.trans c1; have keep1 := n1.trans c2; have keep2 := n2.trans c3; have keep3 := n3.trans c4)
          | (go_at_call 252; refine (hPut.out s3 v3 ⟨op3, a3, b3, x3⟩ _ hz3 g3).mono ?_; rintro e w4 ⟨rfl, g4⟩; obtain ⟨v4, h4, f4, o4⟩ := hGt.out v3 w3 w4 _ f3 o3 g4; have lastQ := h4.c2; obtain ⟨n0', n1', n2', n3'⟩ := hnode.out w4 (hfar.out w4 f4); have last0 := n0'.trans c1; have last1 := n1'.trans c2; have last2 := n2'.trans c3; have last3 := n3'.trans c4))
      all_goals
        have H := Lib.hid g4
        have H4 := Lib.hid h4
        have F4 := Lib.hid f4
        have O4 := Lib.hid o4
        clear g4 h4 f4 o4 g3 f3 f3' o3 o3' keepQ keep0 keep1 keep2 keep3 lastQ last0 last1 last2 last3 n0 n1 n2 n3 n0' n1' n2' n3'
        go_wp2
        go_ret
        exact ⟨rfl, v4, H4.out, F4.out, O4.out⟩

set_option maxHeartbeats 4000000 in
theorem built_any (t : TypeId) (rest : List Value) (q L : Nat) (xs : List Nd) (v : Value) (w : World) (hs : GS t rest q L xs false v w) :
    Calls Try.prog 207 #[.pointer (some ⟨q, 0, none⟩)] w fun e w' => e = .returned (.tuple #[v, .bool true]) ∧ w' = w := by
  have c0 := hs.c0
  have c1 := hs.c1
  clear hs
  go_enter Try.func207, Try.ntmps207
  go_wp2
  go_ret2
  exact ⟨rfl, rfl⟩
theorem built_failed (t : TypeId) (rest : List Value) (q L : Nat) (xs : List Nd) (v : Value) (w : World) (hs : GS t rest q L xs true v w) :
    Calls Try.prog 207 #[.pointer (some ⟨q, 0, none⟩)] w fun e w' => e = .returned (.tuple #[.slice none 0 0, .bool false]) ∧ w' = w := by
  have c1 := hs.c1
  clear hs
  go_enter Try.func207, Try.ntmps207
  go_wp2
  go_ret2
  exact ⟨rfl, rfl⟩

set_option maxHeartbeats 4000000 in
theorem iExpandExpr_any (L B : Nat) (A : Option Addr) (c : Nat) (es : List Nd) (w : World) (hl : es.length ≤ 1048576) (hes : NS w L B A es) (hB : B ≤ w.heap.size) :
    Calls Try.prog 89 #[.slice A es.length c] w (ResExpandExpr (expandR es) (expandOk es) w) := by
  have H := Lib.hid (IsExpr_any L B A c es w hl hes hB)
  cases hg : good es
  · have hK : Hid (expandOk es = false) := by simp [Hid, expandOk, hg]
    have hR : Hid (expandR es = []) := by simp [Hid, expandR, hK.out]
    rw [hg] at H
    clear hg hes
    go_enter Try.func89, Try.ntmps89
    go_wp2_with (fail)
    refine H.out.mono ?_
    rintro e w2 ⟨rfl, hb⟩
    have hbb := Lib.hid hb
    clear hb
    go_wp2_with (fail)
    go_ret2
    rw [hR.out, hK.out]
    exact ⟨none, 0, rfl, OK.nil _ _ _ _, hbb.out⟩
  · obtain ⟨hl1, hl24, hok⟩ := good_len hg
    have hX := Lib.hid (expand_ew hg)
    have hE := Lib.hid hes
    have hOk := Lib.hid hok
    rw [hg] at H
    clear hg hes hok
    obtain ⟨m, hm⟩ : ∃ m, es.length = m + 1 := ⟨es.length - 1, by omega⟩
    have hM := Lib.hid hm
    have hm0 : (0 : Int) ≤ (es.length : Int) - 1 := by omega
    have hmi : (es.length : Int) - 1 = (m : Int) := by omega
    have hMI := Lib.hid hmi
    clear hm hmi
    go_enter Try.func89, Try.ntmps89
    go_wp2_with (fail)
    refine H.out.mono ?_
    rintro e w2 ⟨rfl, hb⟩
    have hb2 := Lib.hid hb
    obtain ⟨W3, hW3⟩ : ∃ W3, W3 = w2.alloc (.cells #[.slice none 0 0, .bool false, .slice A es.length c] 170) := ⟨_, rfl⟩
    have b3 : Below w2.heap.size w2 W3 := by rw [hW3]; exact (Below.refl _ _).alloc (Nat.le_refl _) _
    have G3 : Hid (GS 170 [.slice A es.length c] w2.heap.size (w2.heap.size + 1) [] false (.slice none 0 0) W3) := by
      unfold Hid; rw [hW3]; exact GS.nil _ _ _ _ _
    have z3 : W3.heap.size = w2.heap.size + 1 := by rw [hW3]; simp
    have zb := hb.size
    have B3 := Lib.hid (hb.trans (b3.mono zb))
    have hW := Lib.hid (expWalk_any L B w2.heap.size (w2.heap.size + 1) w.heap.size A c es W3 hl24 hOk.out (hE.out.below B3.out hB) hB (by omega) zb (by omega) (by omega) es.length (es.length - 1) ([], false) (.slice none 0 0) W3 (by omega) (by omega) (Below.refl _ _) G3.out)
    have hmm : es.length - 1 = m := by have := hM.out; omega
    rw [hmm] at hW hX
    have E3 := Lib.hid hW3
    clear hb hW3 b3
    go_wp2_with (fail)
    rw [hMI.out]
    rw [← E3.out]
    refine hW.out.mono ?_
    rintro e w4 ⟨rfl, v4, g4, f4, o4⟩
    have bb4 := Lib.hid (B3.out.trans (f4.below (B := w.heap.size) (by omega) zb (fun j hj => by simp [Value.ownBlock] at hj)))
    have O4 := Lib.hid o4
    have z4 := f4.size
    rcases hX.out with ⟨hk, r, hx⟩ | ⟨hk, hr, zs, r, hx⟩
    · rw [hx] at g4
      have G4 := Lib.hid g4
      have hK := Lib.hid hk
      clear g4 hk hx f4 o4
      have hBu := Lib.hid (built_any _ _ _ _ _ _ _ G4.out)
      go_wp2_with (fail)
      refine hBu.out.mono ?_
      rintro e w5 ⟨rfl, rfl⟩
      obtain ⟨A5, c5, rfl⟩ := G4.out.form
      go_wp2_with (fail)
      go_ret2
      rw [hK.out]
      exact ⟨A5, c5, rfl, G4.out.ok.lower (by omega), bb4.out⟩
    · rw [hx] at g4
      have G4 := Lib.hid g4
      have hK := Lib.hid hk
      have hR := Lib.hid hr
      clear g4 hk hr hx f4 o4
      have hBu := Lib.hid (built_failed _ _ _ _ _ _ _ G4.out)
      go_wp2_with (fail)
      refine hBu.out.mono ?_
      rintro e w5 ⟨rfl, rfl⟩
      go_wp2_with (fail)
      go_ret2
      rw [hK.out, hR.out]
      exact ⟨none, 0, rfl, OK.nil _ _ _ _, bb4.out⟩
theorem iExpandExpr_k (L B : Nat) (A : Option Addr) (c : Nat) (es : List Nd) (w : World) (hl : es.length ≤ 1048576) (hes : RS Nd.enc 4 w L B A es) (hB : B ≤ w.heap.size) (hc : es.length ≤ c) :
    Calls Try.prog 89 #[.slice A es.length c] w (ResExpandExpr (expandR es) (expandOk es) w) := iExpandExpr_any L B A c es w hl hes.ns hB
end Go.Proofs.Ytmhdijklindipaa

namespace Go.Proofs.Ytmhdijklindipaa
open Go.RowKit
set_option linter.unusedVariables false
set_option maxRecDepth 100000

theorem hasInput1_any (s : ByteArray) (a b v k : Int) (bk : Nat) (w : World) (hc : w.cell? ⟨bk, 0, none⟩ = some (.int .i64 k)) (hbk : bk < w.heap.size) :
    Calls Try.prog 256 #[.agg #[.string s, .int .i64 a, .int .i64 b, .int .i64 v], .pointer (some ⟨bk, 0, none⟩)] w fun e w' => e = .returned (.bool (isInp ⟨s, a, b, v⟩ k)) ∧ Below w.heap.size w w' := by
  have hB1 := Lib.hid (fun o => (Below.refl w.heap.size w).alloc (Nat.le_refl _) o)
  go_enter Try.func256, Try.ntmps256
  go_wp2_with (fail)
  refine (isInput_any _ _ _ _ _ _).mono ?_
  rintro e w2 ⟨rfl, hb⟩
  have hb2 := Lib.hid ((hB1.out _).trans (hb.mono (by simp)))
  clear hb
  go_wp2
  go_ret
  exact ⟨rfl, hb2.out⟩
theorem hasIn_of {es : List Nd} {k : Int} {j : Nat} (h : hasIn (es.take j) k = true) : hasIn es k = true := by
  unfold hasIn at *
  rw [List.any_eq_true] at *
  obtain ⟨x, hx, hp⟩ := h
  exact ⟨x, List.mem_of_mem_take hx, hp⟩
def SomeIn (es : List Nd) (k : Int) (w : World) (e : Ending) (w' : World) : Prop := ∃ j : Int, e = .returned (.int .i64 j) ∧ decide (0 ≤ j) = hasIn es k ∧ Below w.heap.size w w'
set_option maxHeartbeats 1000000 in
theorem IndexFuncH_any (L B : Nat) (A : Option Addr) (c : Nat) (es : List Nd) (k : Int) (bk : Nat) (w : World) (hl : es.length ≤ 1048576) (hes : NS w L B A es) (hB : B ≤ w.heap.size) (hc : w.cell? ⟨bk, 0, none⟩ = some (.int .i64 k)) (hbk : bk < w.heap.size) :
    Calls Try.prog 269 #[.slice A es.length c, .func (.func 256) #[] #[.pointer (some ⟨bk, 0, none⟩)]] w (SomeIn es k w) := by
  have hE := Lib.hid hes
  have hBB := Lib.hid hB
  have hC := Lib.hid (And.intro hc hbk)
  have hBel0 := Below.refl w.heap.size w
  clear hes hB hc hbk
  go_enter Try.func269, Try.ntmps269
  go_wp2
  go_loopw [5, 8] (fun _ i wr => ∃ j : Nat, j ≤ es.length ∧ i = .int .i64 j ∧ hasIn (es.take j) k = false ∧ Below w.heap.size w wr) (fun _ i _ => es.length - (intOf i).toNat)
  case atStart => exact ⟨0, Nat.zero_le _, rfl, rfl, hBel0⟩
  case round =>
    obtain ⟨j, hj, rfl, hno, hbel⟩ := hrel
    have hNo := Lib.hid hno
    have hBL := Lib.hid hbel
    clear hno
    by_cases hlt : j < es.length
    · obtain ⟨b, o, rfl, ⟨_, hbB⟩, hcc⟩ := (hE.out.below hbel hBB.out) (by omega)
      obtain ⟨c1, c2, c3, c4⟩ := hcc j hlt
      have hck := Lib.hid ((hbel.cell (p := ⟨bk, 0, none⟩) hC.out.2).trans hC.out.1)
      have hbk2 := Lib.hid (Nat.lt_of_lt_of_le hC.out.2 hbel.size)
      clear hcc hbel
      have hS := Lib.hid (hasIn_snoc hlt k)
      have hOf := Lib.hid (fun h => hasIn_of (es := es) (k := k) (j := j + 1) h)
      generalize es[j] = nd at *
      obtain ⟨s, a, bb, v⟩ := nd
      have hcl := Lib.hid (hasInput1_any s a bb v k bk wr hck.out hbk2.out)
      cases hp : isInp ⟨s, a, bb, v⟩ k
      · rw [hp] at hcl
        have hx : Hid (hasIn (es.take (j + 1)) k = false) := by rw [Hid, hS.out, hNo.out, hp]; rfl
        clear hp
        go_wp2_with (go_at_call 256; (with_reducible refine hcl.out.mono ?_); rintro e w3 ⟨rfl, hb3⟩)
        have hB3 := Lib.hid (hBL.out.trans (hb3.mono hBL.out.size))
        clear hb3
        go_roundw
        case rel => exact ⟨j + 1, by omega, by go_num, hx.out, hB3.out⟩
        case measure => simp [intOf]; omega
      · rw [hp] at hcl
        have hx : Hid (hasIn es k = true) := hOf.out (by rw [hS.out, hp]; simp)
        clear hp
        go_wp2_with (go_at_call 256; (with_reducible refine hcl.out.mono ?_); rintro e w3 ⟨rfl, hb3⟩)
        have hB3 := Lib.hid (hBL.out.trans (hb3.mono hBL.out.size))
        clear hb3
        go_ret
        exact ⟨j, rfl, by rw [hx.out]; simp, hB3.out⟩
    · obtain rfl : j = es.length := by omega
      go_wp2
      go_ret
      exact ⟨-1, rfl, by have := hNo.out; rw [List.take_length] at this; rw [this]; rfl, hbel⟩
theorem ContainsFuncH_any (L B : Nat) (A : Option Addr) (c : Nat) (es : List Nd) (k : Int) (bk : Nat) (w : World) (hl : es.length ≤ 1048576) (hes : NS w L B A es) (hB : B ≤ w.heap.size) (hc : w.cell? ⟨bk, 0, none⟩ = some (.int .i64 k)) (hbk : bk < w.heap.size) :
    Calls Try.prog 255 #[.slice A es.length c, .func (.func 256) #[] #[.pointer (some ⟨bk, 0, none⟩)]] w fun e w' => e = .returned (.bool (hasIn es k)) ∧ Below w.heap.size w w' := by
  have H := Lib.hid (IndexFuncH_any L B A c es k bk w hl hes hB hc hbk)
  clear hes hB hc hbk
  go_enter Try.func255, Try.ntmps255
  go_wp2_with (fail)
  refine H.out.mono ?_
  rintro e w' ⟨j, rfl, hk, hb⟩
  have hK := Lib.hid hk; clear hk
  go_wp2
  go_ret
  exact ⟨ret_bool hK.out, hb⟩
theorem hasInput_any (L B : Nat) (A : Option Addr) (c : Nat) (es : List Nd) (k : Int) (w : World) (hl : es.length ≤ 1048576) (hes : NS w L B A es) (hB : B ≤ w.heap.size) :
    Calls Try.prog 216 #[.slice A es.length c, .int .i64 k] w fun e w' => e = .returned (.bool (hasIn es k)) ∧ Below w.heap.size w w' := by
  have hb1 := Lib.hid ((Below.refl w.heap.size w).alloc (Nat.le_refl _) (.cells #[.int .i64 k] 3))
  have H := Lib.hid (ContainsFuncH_any L B A c es k w.heap.size (w.alloc (.cells #[.int .i64 k] 3)) hl (hes.below hb1.out hB) (Nat.le_trans hB hb1.out.size) (by simp) (by simp))
  clear hes hB
  go_enter Try.func216, Try.ntmps216
  go_wp2_with (fail)
  refine H.out.mono ?_
  rintro e w' ⟨rfl, hb⟩
  have hb2 := Lib.hid (hb1.out.trans (hb.mono hb1.out.size))
  clear hb
  go_wp2
  go_ret
  exact ⟨rfl, hb2.out⟩
end Go.Proofs.Ytmhdijklindipaa

/- The program's walk that moves nodes, on a builder in any state; slices.Clone of nodes. -/
namespace Go.Proofs.Ytmhdijklindipaa
open Go.RowKit
set_option linter.unusedVariables false
set_option maxRecDepth 100000

theorem nd_ones (es : List Nd) : ∀ u ∈ es.flatMap Nd.enc, u.oneCell' = true := by
  intro u hu
  obtain ⟨x, _, hx⟩ := List.mem_flatMap.1 hu
  exact four_one x u hx
set_option maxHeartbeats 1000000 in
/-- slices.Clone of nodes that lie in memory. -/
theorem CloneN_any (b o c : Nat) (xs : List Nd) (L B : Nat) (w : World) (hl : xs.length ≤ 1048576) (hx : RS Nd.enc 4 w L B (some ⟨b, o, none⟩) xs) (hB : B ≤ w.heap.size) :
    Calls Try.prog 219 #[.slice (some ⟨b, o, none⟩) xs.length c] w (FreshNode w xs) := by
  obtain ⟨i0, hi, hz0, hz1, hz2⟩ := info_parts Try.infoNode
  have hb0 := Lib.hid ((Below.refl w.heap.size w).alloc (Nat.le_refl _) (.cells #[] 40))
  have hnews := Lib.hid ((hx.below hb0.out hB).news Nd.hk)
  have hown := Lib.hid (World.ownsRow_made (base := w.heap.size) (e := 40) (size := 4) w #[] 0 (Nat.le_refl _) (by unfold maxLen; omega) (by simp))
  clear hx
  have heq := Lib.run_eql_slice_nil (P := Try.prog) w 24 40 (some ⟨b, o, none⟩) xs.length c 0 0 Try.underlying24
  simp only [Option.isNone_some] at heq
  go_enter Try.func219, Try.ntmps219
  go_wp2_with (at_builtin; refine wpList_append_src rfl _ _ 24 rfl w.heap.size 40 i0 _ 4 40 Try.underlying24 hi hz0 hz1 hz2 rfl (by decide) _ 0 [] rfl hown.out (some ⟨b, o, none⟩) xs.length c (xs.flatMap Nd.enc) rfl (kflat_len Nd.hk xs) hnews.out (nd_ones xs) (by unfold maxLen; omega) (by omega) (by simp) ?_; intro v' w1 hown' hgrow _)
  simp only [Nat.zero_add, List.nil_append] at hown'
  have ho : Hid (OK Nd.enc 4 40 w1 w.heap.size w1.heap.size v' xs) := ⟨hown', fun j hj => (hown'.lt j hj).2⟩
  have hb : Hid (Below w.heap.size w w1) := hb0.out.grown hgrow (by simp) (fun k hk => by cases hk; exact Nat.le_refl _)
  obtain ⟨A', c', rfl, _⟩ := OK.form Nd.hk ho.out
  clear hown' hgrow
  go_wp2
  go_ret
  exact ⟨_, _, rfl, ho.out, hb.out⟩

set_option maxHeartbeats 4000000 in
theorem move_gen (q g L C m k cc : Nat) (s : List Nd × Bool) (v : Value) (ps : List Int) (n : Nd) (w : World) (hn : isNode n k = true) (hk : k < m) (hm : ps.length = m) (hqg : q ≠ g) (hgL : g < L) (hL : L ≤ w.heap.size) (hCq : C ≤ q) (hCg : C ≤ g) (hCL : C ≤ L)
    (hs : GS 183 [.slice (some ⟨g, 0, none⟩) m cc] q L s.1 s.2 v w) (hi : IB w g 3 ps) :
    Calls Try.prog 221 #[.pointer (some ⟨q, 0, none⟩), .int .i64 k, .agg #[.string n.op, .int .i64 n.a, .int .i64 n.b, .int .i64 n.v]] w fun e w' => e = .returned (.tuple #[]) ∧ ∃ v', GS 183 [.slice (some ⟨g, 0, none⟩) m cc] q L (bp s (moved n ps)).1.1 (bp s (moved n ps)).1.2 v' w' ∧ IB w' g 3 (ps.set k (bp s (moved n ps)).2) ∧ Below C w w' := by
  have hal := Lib.hid ((Below.refl w.heap.size w).alloc (Nat.le_refl _) (.cells #[.string n.op, .int .i64 n.a, .int .i64 n.b, .int .i64 n.v] 40))
  have hq0 := hs.lt
  have k1 : (0 : Int) ≤ (k : Int) := by omega
  have k2 : (k : Int) < (m : Int) := by omega
  have hc2 := (hal.out.cell (p := ⟨q, 2, none⟩) hq0).trans hs.c2
  have X0 : Hid (XN (w.alloc (.cells #[.string n.op, .int .i64 n.a, .int .i64 n.b, .int .i64 n.v] 40)) w.heap.size n) := xn_new _ n
  have hWO := Lib.hid fun (W : World) (hW : Below w.heap.size w W) => withOperands_any q g m k cc n ps W hm hn hk (by have := hW.size; omega) ((hW.cell (p := ⟨q, 2, none⟩) hq0).trans hs.c2) (hi.below hW hi.lt)
  have hPut := Lib.hid fun (W : World) (hz : w.heap.size ≤ W.heap.size) (h' : GS 183 [.slice (some ⟨g, 0, none⟩) m cc] q L s.1 s.2 v W) => put_gen 183 [.slice (some ⟨g, 0, none⟩) m cc] q L s v (moved n ps) W (by omega) h'
  have hGn := Lib.hid fun (W : World) (hW : Below w.heap.size w W) => hs.next hW
  have hIn := Lib.hid fun (W : World) (hW : Below w.heap.size w W) => hi.below hW hi.lt
  have hvw : v.ownBlock ≠ some w.heap.size := fun e => by have := (hs.own _ e).2; omega
  have hvg : v.ownBlock ≠ some g := fun e => by have := (hs.own _ e).1; omega
  have hvC := Lib.hid fun j (hj : v.ownBlock = some j) => Nat.le_trans hCL (hs.own j hj).1
  have hwq : w.heap.size ≠ q := by omega
  have hwg : g ≠ w.heap.size := by have := hi.lt; omega
  have hil := hi.lt
  clear hi hs
  generalize bp s (moved n ps) = r at *
  obtain ⟨⟨s1, s2⟩, r⟩ := r
  dsimp only at hPut ⊢
  go_enter Try.func221, Try.ntmps221
  go_wp2_with (fail)
  generalize w.alloc (.cells #[.string n.op, .int .i64 n.a, .int .i64 n.b, .int .i64 n.v] 40) = w0 at *
  obtain ⟨m0, m1, m2, m3⟩ := X0.out.cells
  go_region_held3 (fun w' => w'.cell? ⟨q, 2, none⟩ = some (.slice (some ⟨g, 0, none⟩) m cc) ∧ w'.cell? ⟨w.heap.size, 0, none⟩ = some (.string n.op) ∧ w'.cell? ⟨w.heap.size, 1, none⟩ = some (.int .i64 n.a) ∧ w'.cell? ⟨w.heap.size, 2, none⟩ = some (.int .i64 n.b) ∧ w'.cell? ⟨w.heap.size, 3, none⟩ = some (.int .i64 n.v))
    (first | exact K5 | exact K4 | exact K3 | assumption | go_keep)
    (first
      | (go_at_call 253; refine (hWO.out _ (by first | exact hal.out | exact hal.out.drew)).mono ?_; rintro e w3 ⟨rfl, hb3⟩; have hbw : Below w.heap.size w w3 := (by first | exact hal.out.trans (hb3.mono hal.out.size) | exact hal.out.drew.trans (hb3.mono hal.out.size)); have hx3 : XN w3 w.heap.size n := (by first | exact X0.out.next hb3 | exact XN.next (w := w0.drew) X0.out hb3); have g3 := hGn.out w3 hbw; have i3 := hIn.out w3 hbw; have hz3 := hbw.size; have K3 := And.intro g3.c2 hx3.cells)
      | (go_at_call 252; refine (hPut.out _ (by first | exact hz3) g3).mono ?_; rintro e w4 ⟨rfl, v4, g4, f4', o4⟩; have f4 : Fr q v.ownBlock w3 w4 := (by first | exact f4' | exact (Fr.refl q _ w3).drew.trans f4' (fun j hj => .inl hj)); have i4 : IB w4 g 3 ps := (f4.block g (by omega) (Ne.symm hqg) hvg).trans i3; have x4 := xn_fr hx3 f4 hwq hvw; have hv4 : v4.ownBlock ≠ some g := (fun e => by rcases o4 _ e with e' | e'; exact hvg e'; have e2 : w3.heap.size ≤ g := e'; omega); have s1' := i4.cell k (by omega); have s2' := i4.frozen k; have K4 := And.intro g4.c2 x4.cells; have g5 := g4.other (p := ⟨g, k, none⟩) (Ne.symm hqg) hv4 (.int .i64 r); have K5 := And.intro g5.c2 (x4.other (q := g) k (.int .i64 r) hwg).cells; have i5 := i4.set k r))
  all_goals
    have H1 := Lib.hid g5
    have H2 := Lib.hid i5
    have H3 : Hid (Below C w w4) := (hbw.mono (show C ≤ w.heap.size by omega)).trans (f4.below (by omega) hCq (fun j hj => hvC.out j hj))
    clear hbw hb3 hx3 g3 i3 K3 g4 f4' f4 o4 i4 x4 s1' s2' K4 g5 K5 i5 hv4
    go_wp2
    first | (refine bodyPost_end (results_none rfl _ _ _) rfl ?_) | (refine bodyPost_ret (results_none rfl _ _ _) rfl ?_)
    exact ⟨rfl, v4, H1.out, H2.out, H3.out.setCell hCg _⟩
end Go.Proofs.Ytmhdijklindipaa

/- PutInput: the program. -/
namespace Go.Proofs.Ytmhdijklindipaa
open Go.RowKit
set_option linter.unusedVariables false
set_option maxRecDepth 100000

/-- The program's state. -/
def pps (es f : List Nd) (k : Int) : Nat → (List Nd × Bool) × List Int
  | 0 => ((f, false), zeros es.length)
  | i + 1 => if isInp (es.getD i zeroNd) k = true then ((pps es f k i).1, (pps es f k i).2.set i ((f.length : Int) - 1)) else ((bp (pps es f k i).1 (moved (es.getD i zeroNd) (pps es f k i).2)).1, (pps es f k i).2.set i (bp (pps es f k i).1 (moved (es.getD i zeroNd) (pps es f k i).2)).2)
theorem pps_len (es f : List Nd) (k : Int) : ∀ i, (pps es f k i).2.length = es.length := by
  intro i
  induction i with
  | zero => simp [pps, zeros]
  | succ i ih =>
    rw [pps]; split
    · simp only [List.length_set]; exact ih
    · simp only [List.length_set]; exact ih
theorem pps_yes {es f : List Nd} {k : Int} {i : Nat} (hi : i < es.length) (h : isInp es[i] k = true) : (pps es f k (i + 1)).1 = (pps es f k i).1 ∧ (pps es f k (i + 1)).2 = (pps es f k i).2.set i ((f.length : Int) - 1) := by
  rw [pps, getD_nd hi, if_pos h]; exact ⟨rfl, rfl⟩
theorem pps_no {es f : List Nd} {k : Int} {i : Nat} (hi : i < es.length) (h : isInp es[i] k = false) : (pps es f k (i + 1)).1 = (bp (pps es f k i).1 (moved es[i] (pps es f k i).2)).1 ∧ (pps es f k (i + 1)).2 = (pps es f k i).2.set i (bp (pps es f k i).1 (moved es[i] (pps es f k i).2)).2 := by
  rw [pps, getD_nd hi, if_neg (by rw [h]; decide)]; exact ⟨rfl, rfl⟩
theorem pps_po {es f : List Nd} {k : Int} (hf : f.length ≤ 24) : ∀ i, i ≤ es.length → ((po es f k i).length ≤ 24 ∧ pps es f k i = ((po es f k i, false), pq es f k i)) ∨ (24 < (po es f k i).length ∧ (pps es f k i).1.2 = true) := by
  intro i
  induction i with
  | zero => intro _; left; exact ⟨hf, rfl⟩
  | succ i ih =>
    intro hi
    have hie : i < es.length := by omega
    rcases ih (by omega) with ⟨h1, h2⟩ | ⟨h1, h2⟩
    · cases hp : isInp es[i] k
      · obtain ⟨a1, a2⟩ := pst_no (f := f) hie hp
        obtain ⟨b1, b2⟩ := pps_no (f := f) hie hp
        rw [h2] at b1 b2
        dsimp only at b1 b2
        by_cases h3 : (po es f k i).length < 24
        · rw [bp_room _ h3] at b1 b2
          left
          refine ⟨by rw [a1]; simp; omega, ?_⟩
          exact Prod.ext (by rw [b1, a1]) (by rw [b2, a2])
        · rw [bp_full _ _ (by omega)] at b1
          right
          exact ⟨by rw [a1]; simp; omega, by rw [b1]⟩
      · obtain ⟨a1, a2⟩ := pst_yes (f := f) hie hp
        obtain ⟨b1, b2⟩ := pps_yes (f := f) hie hp
        rw [h2] at b1 b2
        left
        refine ⟨by rw [a1]; exact h1, ?_⟩
        exact Prod.ext (by rw [b1, a1]) (by rw [b2, a2])
    · right
      have h4 : 24 < (po es f k (i + 1)).length := by have := po_mono es f k i 1; omega
      refine ⟨h4, ?_⟩
      cases hp : isInp es[i] k
      · rw [(pps_no (f := f) hie hp).1]
        generalize pps es f k i = r at *
        obtain ⟨⟨xs, fl⟩, ps⟩ := r
        dsimp only at h2; subst h2
        unfold bp; split <;> simp_all
      · rw [(pps_yes (f := f) hie hp).1]; exact h2

set_option maxHeartbeats 4000000 in
theorem iPutInput_k (L0 B0 : Nat) (A0 : Option Addr) (c0 : Nat) (es : List Nd) (k : Int) (L2 B2 : Nat) (A2 : Option Addr) (c2 : Nat) (fs : List Nd) (w : World) (hl : es.length ≤ 1048576) (hes : RS Nd.enc 4 w L0 B0 A0 es) (hB0 : B0 ≤ w.heap.size) (hc0 : es.length ≤ c0) (hl2 : fs.length ≤ 1048576) (hfs : RS Nd.enc 4 w L2 B2 A2 fs) (hB2 : B2 ≤ w.heap.size) (hc2 : fs.length ≤ c2) :
    Calls Try.prog 107 #[.slice A0 es.length c0, .int .i64 k, .slice A2 fs.length c2] w (ResPutInput (putR es k fs) (putOk es k fs) w) := by
  have H := Lib.hid (IsExpr_any L0 B0 A0 c0 es w hl hes.ns hB0)
  have HF := Lib.hid fun (W : World) (hW : Below w.heap.size w W) => IsExpr_any L2 B2 A2 c2 fs W hl2 (hfs.ns.below hW hB2) (Nat.le_trans hB2 hW.size)
  have hE := Lib.hid fun (W : World) (hW : Below w.heap.size w W) => hes.below hW hB0
  have hF := Lib.hid fun (W : World) (hW : Below w.heap.size w W) => hfs.below hW hB2
  clear hes hfs
  cases hg : good es
  · have hK : Hid (putOk es k fs = false) := by simp [Hid, putOk, hg]
    have hR := Lib.hid (putR_no hK.out)
    rw [hg] at H
    clear hg
    go_enter Try.func107, Try.ntmps107
    go_wp2_with (fail)
    refine H.out.mono ?_
    rintro e w2 ⟨rfl, hb⟩
    have hbb := Lib.hid hb
    clear hb
    go_wp2_with (fail)
    go_ret2
    rw [hR.out, hK.out]
    exact ⟨none, 0, rfl, OK.nil _ _ _ _, hbb.out⟩
  rw [hg] at H
  cases hgf : good fs
  · have hK : Hid (putOk es k fs = false) := by simp [Hid, putOk, hgf]
    have hR := Lib.hid (putR_no hK.out)
    rw [hgf] at HF
    clear hg hgf
    go_enter Try.func107, Try.ntmps107
    go_wp2_with (fail)
    refine H.out.mono ?_
    rintro e w2 ⟨rfl, hb⟩
    have hbb := Lib.hid hb
    clear hb
    go_wp2_with (fail)
    refine (HF.out w2 hbb.out).mono ?_
    rintro e w3 ⟨rfl, hb⟩
    have hbc := Lib.hid (hbb.out.trans (hb.mono hbb.out.size))
    clear hb
    go_wp2_with (fail)
    go_ret2
    rw [hR.out, hK.out]
    exact ⟨none, 0, rfl, OK.nil _ _ _ _, hbc.out⟩
  rw [hgf] at HF
  obtain ⟨hl1, hl24, hok⟩ := good_len hg
  obtain ⟨hf1, hf24, hokf⟩ := good_len hgf
  cases hr : inR k 0 1
  · have hK : Hid (putOk es k fs = false) := by simp [Hid, putOk, hr]
    have hR := Lib.hid (putR_no hK.out)
    clear hg hgf hok hokf
    by_cases h0 : k < 0
    · go_enter Try.func107, Try.ntmps107
      go_wp2_with (fail)
      refine H.out.mono ?_
      rintro e w2 ⟨rfl, hb⟩
      have hbb := Lib.hid hb
      clear hb
      go_wp2_with (fail)
      refine (HF.out w2 hbb.out).mono ?_
      rintro e w3 ⟨rfl, hb⟩
      have hbc := Lib.hid (hbb.out.trans (hb.mono hbb.out.size))
      clear hb
      go_wp2_with (fail)
      go_ret2
      rw [hR.out, hK.out]
      exact ⟨none, 0, rfl, OK.nil _ _ _ _, hbc.out⟩
    · have h1 : 1 < k := by
        rcases Int.lt_or_le 1 k with h | h
        · exact h
        · have := (inR_iff k 0 1).2 ⟨by omega, h⟩; rw [this] at hr; cases hr
      have h0' : 0 ≤ k := by omega
      clear hr h0
      go_enter Try.func107, Try.ntmps107
      go_wp2_with (fail)
      refine H.out.mono ?_
      rintro e w2 ⟨rfl, hb⟩
      have hbb := Lib.hid hb
      clear hb
      go_wp2_with (fail)
      refine (HF.out w2 hbb.out).mono ?_
      rintro e w3 ⟨rfl, hb⟩
      have hbc := Lib.hid (hbb.out.trans (hb.mono hbb.out.size))
      clear hb
      go_wp2_with (fail)
      go_ret2
      rw [hR.out, hK.out]
      exact ⟨none, 0, rfl, OK.nil _ _ _ _, hbc.out⟩
  have hkr := (inR_iff _ _ _).1 hr
  obtain ⟨kn0, kn1⟩ := hkr
  have HI := Lib.hid fun (W : World) (hW : Below w.heap.size w W) => hasInput_any L0 B0 A0 c0 es k W hl (hE.out W hW).ns (Nat.le_trans hB0 hW.size)
  obtain ⟨b0, o0, hA0, ⟨_, hbB0⟩, _⟩ := (hE.out w (Below.refl _ _)) (by omega)
  subst hA0
  cases hi : hasIn es k
  · have hK : Hid (putOk es k fs = true) := by simp [Hid, putOk, hg, hgf, hr, hi]
    have hR : Hid (putR es k fs = es) := by unfold Hid putR; rw [hK.out, hi]; rfl
    have hCl := Lib.hid fun (W : World) (hW : Below w.heap.size w W) => CloneN_any b0 o0 c0 es L0 B0 W hl (hE.out W hW) (Nat.le_trans hB0 hW.size)
    rw [hi] at HI
    clear hg hgf hok hokf hr hi
    go_enter Try.func107, Try.ntmps107
    go_wp2_with (fail)
    refine H.out.mono ?_
    rintro e w2 ⟨rfl, hb⟩
    have hbb := Lib.hid hb
    clear hb
    go_wp2_with (fail)
    refine (HF.out w2 hbb.out).mono ?_
    rintro e w3 ⟨rfl, hb⟩
    have hbc := Lib.hid (hbb.out.trans (hb.mono hbb.out.size))
    clear hb
    go_wp2_with (fail)
    refine (HI.out w3 hbc.out).mono ?_
    rintro e w4 ⟨rfl, hb⟩
    have hbd := Lib.hid (hbc.out.trans (hb.mono hbc.out.size))
    clear hb
    go_wp2_with (fail)
    refine (hCl.out w4 hbd.out).mono ?_
    rintro e w5 ⟨A5, c5, rfl, ho, hb⟩
    have hO := Lib.hid ho
    have hbe := Lib.hid (hbd.out.trans (hb.mono hbd.out.size))
    clear hb ho
    go_wp2_with (fail)
    go_ret2
    rw [hR.out, hK.out]
    exact ⟨A5, c5, rfl, hO.out.lower hbd.out.size, hbe.out⟩
  have hK : Hid (putOk es k fs = decide ((po es fs k es.length).length ≤ 24)) := by simp [Hid, putOk, hg, hgf, hr, hi]
  have hR : Hid (putOk es k fs = true → putR es k fs = po es fs k es.length) := by intro h; unfold putR; rw [if_pos h, if_pos hi]
  have hRn : Hid (putOk es k fs = false → putR es k fs = []) := putR_no
  rw [hi] at HI
  obtain ⟨bf, of, hA2, ⟨_, hbBf⟩, _⟩ := (hF.out w (Below.refl _ _)) (by omega)
  subst hA2
  have hCl := Lib.hid fun (W : World) (hW : Below w.heap.size w W) => CloneN_any bf of c2 fs L2 B2 W hl2 (hF.out W hW) (Nat.le_trans hB2 hW.size)
  have hOk := Lib.hid hok
  have hmi := run_make_ints es.length hl
  have hPP := Lib.hid (pps_po (es := es) (f := fs) (k := k) hf24 es.length (Nat.le_refl _))
  have hPl := Lib.hid (pps_len es fs k)
  have hPy := Lib.hid fun j (hj : j < es.length) => pps_yes (es := es) (f := fs) (k := k) (i := j) hj
  have hPn := Lib.hid fun j (hj : j < es.length) => pps_no (es := es) (f := fs) (k := k) (i := j) hj
  have hp0 : pps es fs k 0 = ((fs, false), zeros es.length) := rfl
  have hII := Lib.hid fun (n : Nd) W => isInput_any n.op n.a n.b n.v k W
  clear hg hgf hok hokf hr hi
  generalize pps es fs k = PP at *
  go_enter Try.func107, Try.ntmps107
  go_wp2_with (fail)
  refine H.out.mono ?_
  rintro e w2 ⟨rfl, hb⟩
  have hbb := Lib.hid hb
  clear hb
  go_wp2_with (fail)
  refine (HF.out w2 hbb.out).mono ?_
  rintro e w3 ⟨rfl, hb⟩
  have hbc := Lib.hid (hbb.out.trans (hb.mono hbb.out.size))
  clear hb
  go_wp2_with (fail)
  refine (HI.out w3 hbc.out).mono ?_
  rintro e w4 ⟨rfl, hb⟩
  have hbd := Lib.hid (hbc.out.trans (hb.mono hbc.out.size))
  clear hb
  obtain ⟨WQ, hWQ⟩ : ∃ WQ, WQ = (w4.alloc (.cells (intCells (zeros es.length)) 3)).alloc (.cells #[.slice none 0 0, .bool false, .slice (some ⟨w4.heap.size, 0, none⟩) es.length es.length] 183) := ⟨_, rfl⟩
  have aI := (Below.refl w4.heap.size w4).alloc (Nat.le_refl _) (.cells (intCells (zeros es.length)) 3)
  have iI : IB (w4.alloc (.cells (intCells (zeros es.length)) 3)) w4.heap.size 3 (zeros es.length) := heap_alloc_new w4 _
  have zI : (w4.alloc (.cells (intCells (zeros es.length)) 3)).heap.size = w4.heap.size + 1 := by simp
  have aQ := (Below.refl (w4.alloc (.cells (intCells (zeros es.length)) 3)).heap.size (w4.alloc (.cells (intCells (zeros es.length)) 3))).alloc (Nat.le_refl _) (.cells #[.slice none 0 0, .bool false, .slice (some ⟨w4.heap.size, 0, none⟩) es.length es.length] 183)
  rw [← hWQ] at aQ
  have iQ := Lib.hid (iI.below aQ iI.lt)
  have bQ := Lib.hid (hbd.out.trans ((aI.trans (aQ.mono aI.size)).mono hbd.out.size))
  have mQ : Hid (WQ.heap[w4.heap.size + 1]? = some (.cells #[.slice none 0 0, .bool false, .slice (some ⟨w4.heap.size, 0, none⟩) es.length es.length] 183 (0, 0))) := by
    unfold Hid; rw [← zI, hWQ]; exact heap_alloc_new _ _
  have zQ : WQ.heap.size = w4.heap.size + 2 := by rw [hWQ]; simp
  have HWQ := Lib.hid hWQ
  clear hWQ aI iI zI aQ
  go_wp2_with (fail)
  rw [← HWQ.out]
  refine (hCl.out WQ bQ.out).mono ?_
  rintro e w5 ⟨A5, c5, rfl, ho, hb⟩
  have m5 : w5.heap[w4.heap.size + 1]? = some (.cells #[.slice none 0 0, .bool false, .slice (some ⟨w4.heap.size, 0, none⟩) es.length es.length] 183 (0, 0)) := (hb.block _ (by omega)).trans mQ.out
  have k5 : w5.cell? ⟨w4.heap.size + 1, 0, none⟩ = some (.slice none 0 0) := by simp [World.cell?, m5]
  have f5 : w5.frozen? ⟨w4.heap.size + 1, 0, none⟩ = false := by simp [World.frozen?, m5]
  have B5 := Lib.hid (bQ.out.trans (hb.mono bQ.out.size))
  have z5 := hb.size
  obtain ⟨W6, hW6⟩ : ∃ W6, W6 = w5.setCell ⟨w4.heap.size + 1, 0, none⟩ (.slice A5 fs.length c5) := ⟨_, rfl⟩
  have s6 : W6.heap.size = w5.heap.size := by rw [hW6]; simp [World.setCell]
  have zd := hbd.out.size
  have i6 : Hid (IB W6 w4.heap.size 3 (zeros es.length)) := by
    unfold Hid; rw [hW6]
    exact (Below.heap_setCell w5 ⟨w4.heap.size + 1, 0, none⟩ _ w4.heap.size (by simp)).trans ((hb.block _ (by omega)).trans iQ.out)
  have g6 : Hid (GS 183 [.slice (some ⟨w4.heap.size, 0, none⟩) es.length es.length] (w4.heap.size + 1) (w4.heap.size + 2) fs false (.slice A5 fs.length c5) W6) := by
    unfold Hid
    have hlo := fun j hj => (ho.lo j hj).1
    refine ⟨?_, ?_, fun e => by have := hlo _ e; omega⟩
    · rw [hW6]; simp [World.setCell, Array.getElem?_modify, m5]
    · have h8 := (ho.lower (lo' := w4.heap.size + 2) (by omega)).1
      refine ⟨h8.1, ?_⟩
      rcases h8.2 with hn | ⟨gg, cap, cur, e, hg, hh, hrest⟩
      · exact .inl hn
      · refine .inr ⟨gg, cap, cur, e, hg, ?_, hrest⟩
        rw [hW6]; exact (Below.heap_setCell w5 ⟨w4.heap.size + 1, 0, none⟩ _ gg (by simp; omega)).trans hh
  have B6 : Hid (Below w.heap.size w W6) := by unfold Hid; rw [hW6]; exact B5.out.setCell (p := ⟨w4.heap.size + 1, 0, none⟩) (by simp; omega) _
  have HW6 := Lib.hid hW6
  clear hb ho m5 hW6 hmi
  go_wp2
  rw [← HW6.out]
  clear HW6 k5 f5
  generalize w4.heap.size = g at *
  go_loopw [43] (fun i wi => ∃ (j : Nat) (v : Value), j ≤ es.length ∧ i = .int .i64 j ∧ IB wi g 3 (PP j).2 ∧ GS 183 [.slice (some ⟨g, 0, none⟩) es.length es.length] (g + 1) (g + 2) (PP j).1.1 (PP j).1.2 v wi ∧ g + 2 ≤ wi.heap.size ∧ Below w.heap.size w wi) (fun i _ => es.length - (intOf i).toNat)
  case atStart =>
    refine ⟨0, .slice A5 fs.length c5, Nat.zero_le _, rfl, ?_, ?_, by omega, B6.out⟩
    · rw [hp0]; exact i6.out
    · rw [hp0]; exact g6.out
  case round =>
    obtain ⟨j, v, hj, rfl, hi, hgs, hsz, hbel⟩ := hrel
    have hI := Lib.hid hi
    have hG := Lib.hid hgs
    have hBe := Lib.hid hbel
    clear hi hgs hbel i6 g6 iQ mQ
    by_cases hlt : j < es.length
    · obtain ⟨b', o', hA, ⟨_, hbB⟩, hcc⟩ := ((hE.out wr hBe.out).ns) (by omega)
      obtain ⟨c1, c2, c3, c4⟩ := hcc j hlt
      injection hA with hA
      injection hA with hA1 hA2
      subst hA1; subst hA2
      have k0 : (0 : Int) ≤ (j : Int) := by omega
      have k1 : (j : Int) < (es.length : Int) := by omega
      have hnd := ok_get hOk.out hlt
      have hY := hPy.out j hlt
      have hN := hPn.out j hlt
      have hpl := hPl.out j
      have hX := xn_new wr es[j]
      have hXb := (Below.refl wr.heap.size wr).alloc (Nat.le_refl _) (.cells #[.string es[j].op, .int .i64 es[j].a, .int .i64 es[j].b, .int .i64 es[j].v] 40)
      obtain ⟨X, hXe⟩ : ∃ X, X = wr.alloc (.cells #[.string es[j].op, .int .i64 es[j].a, .int .i64 es[j].b, .int .i64 es[j].v] 40) := ⟨_, rfl⟩
      rw [← hXe] at hX hXb
      have HX := Lib.hid hXe
      have xX := Lib.hid hX
      have xG := Lib.hid (hG.out.next hXb)
      have xI := Lib.hid (hI.out.below hXb hI.out.lt)
      have xB := Lib.hid (hBe.out.trans (hXb.mono hBe.out.size))
      have hII2 := hII.out es[j]
      have xz : wr.heap.size ≤ X.heap.size := hXb.size
      obtain ⟨m0, m1, m2, m3⟩ := hX.cells
      rw [hXe] at m0 m1 m2 m3
      cases hp : isInp es[j] k
      · have hp' : (isIn es[j].op && es[j].v == k) = false := hp
        rw [hp'] at hII2
        have hN2 := Lib.hid (hN hp)
        clear hY hN hp hp' hcc hX hXb hXe
        generalize es[j] = nd at *
        obtain ⟨op, a, b, x⟩ := nd
        dsimp only at *
        go_wp2_with (fail)
        rw [← HX.out]
        refine (hII2 X).mono ?_
        rintro e w7 ⟨rfl, hb7⟩
        have xX7 := Lib.hid (xX.out.next hb7)
        have xG7 := Lib.hid (xG.out.next hb7)
        have xI7 := Lib.hid (xI.out.below hb7 xI.out.lt)
        have xB7 := Lib.hid (xB.out.trans (hb7.mono xB.out.size))
        have x7z := hb7.size
        clear hb7 m0 m1 m2 m3 c1 c2 c3 c4
        obtain ⟨m0, m1, m2, m3⟩ := xX7.out.cells
        have hM := Lib.hid (move_gen (g + 1) g (g + 2) w.heap.size es.length j es.length (PP j).1 v (PP j).2 ⟨op, a, b, x⟩ w7 hnd hlt hpl (by omega) (by omega) (by omega) (by omega) (by omega) (by omega) xG7.out xI7.out)
        go_wp2_with (fail)
        refine hM.out.mono ?_
        rintro e w8 ⟨rfl, v8, g8, i8, b8⟩
        have G8 := Lib.hid g8
        have I8 := Lib.hid i8
        have B8 := Lib.hid (xB7.out.trans b8)
        have z8 := b8.size
        clear g8 i8 b8 m0 m1 m2 m3
        go_wp2
        go_roundw
        case rel =>
          refine ⟨j + 1, v8, by omega, by go_num, ?_, ?_, by omega, B8.out⟩
          · rw [hN2.out.2]; exact I8.out
          · rw [hN2.out.1]; exact G8.out
        case measure => simp [intOf]; omega
      · have hp' : (isIn es[j].op && es[j].v == k) = true := hp
        rw [hp'] at hII2
        have hY2 := Lib.hid (hY hp)
        clear hY hN hp hp' hcc hX hXb hXe
        generalize es[j] = nd at *
        obtain ⟨op, a, b, x⟩ := nd
        dsimp only at *
        have hq2 := Lib.hid fun (W : World) (hW : Below X.heap.size X W) => (xG.out.next hW).c2
        go_wp2_with (fail)
        rw [← HX.out]
        refine (hII2 X).mono ?_
        rintro e w7 ⟨rfl, hb7⟩
        have xG7 := Lib.hid (xG.out.next hb7)
        have xI7 := Lib.hid (xI.out.below hb7 xI.out.lt)
        have xB7 := Lib.hid (xB.out.trans (hb7.mono xB.out.size))
        have x7z := hb7.size
        clear hb7 m0 m1 m2 m3 c1 c2 c3 c4
        have q2 := xG7.out.c2
        have s1 := xI7.out.cell j (by rw [hpl]; exact hlt)
        have s2 := xI7.out.frozen j
        have hvg : Hid (v.ownBlock ≠ some g) := fun e => by have := (xG7.out.own _ e).1; omega
        go_wp2
        go_roundw
        case rel =>
          refine ⟨j + 1, v, by omega, by go_num, ?_, ?_, ?_, ?_⟩
          · rw [hY2.out.2]; exact xI7.out.set j _
          · rw [hY2.out.1]; exact xG7.out.other (p := ⟨g, j, none⟩) (by simp) hvg.out _
          · simp [World.setCell]; omega
          · exact xB7.out.setCell (p := ⟨g, j, none⟩) (by simp; omega) _
        case measure => simp [intOf]; omega
    · obtain rfl : j = es.length := by omega
      rcases hPP.out with ⟨h1, h2⟩ | ⟨h1, h2⟩
      · have hk2 : putOk es k fs = true := by rw [hK.out]; exact decide_eq_true h1
        have hR2 := Lib.hid (hR.out hk2)
        have hK2 := Lib.hid hk2
        rw [h2] at hG
        clear h1 h2 hk2
        dsimp only at hG
        have hBu := Lib.hid (built_any _ _ _ _ _ _ _ hG.out)
        go_wp2_with (fail)
        refine hBu.out.mono ?_
        rintro e w9 ⟨rfl, rfl⟩
        obtain ⟨A9, c9, rfl⟩ := hG.out.form
        go_wp2_with (fail)
        go_ret2
        rw [hK2.out, hR2.out]
        exact ⟨A9, c9, rfl, hG.out.ok.lower (by omega), hBe.out⟩
      · have hk2 : putOk es k fs = false := by rw [hK.out]; exact decide_eq_false (by omega)
        have hR2 := Lib.hid (hRn.out hk2)
        have hK2 := Lib.hid hk2
        rw [h2] at hG
        clear h1 h2 hk2
        have hBu := Lib.hid (built_failed _ _ _ _ _ _ _ hG.out)
        go_wp2_with (fail)
        refine hBu.out.mono ?_
        rintro e w9 ⟨rfl, rfl⟩
        go_wp2_with (fail)
        go_ret2
        rw [hK2.out, hR2.out]
        exact ⟨none, 0, rfl, OK.nil _ _ _ _, hBe.out⟩
end Go.Proofs.Ytmhdijklindipaa
