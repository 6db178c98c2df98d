/- Texts of this proof, one behind the other: LawU, WE, XS, XA, XQ, IA. -/
import Derived.Test.YtmhdijklindipaaZ8
import Derived.Test.YtmhdijklindipaaLI
import Derived.Test.YtmhdijklindipaaZ11
import Derived.Test.YtmhdijklindipaaZ9
import Derived.WalkKit
import Derived.WalkSpells
import Derived.WalkLawsBesides
import Derived.Lib.Hide
import Derived.Test.YtmhdijklindipaaZ17
import Derived.Test.YtmhdijklindipaaCA
import Derived.Test.YtmhdijklindipaaZ4
import Derived.Test.YtmhdijklindipaaZ12
import Derived.Test.YtmhdijklindipaaZ10
import Derived.Test.YtmhdijklindipaaZ5
import Derived.Test.YtmhdijklindipaaZ14
import Derived.Test.YtmhdijklindipaaK
import Derived.Outline
namespace Go.Proofs.Ytmhdijklindipaa
open Go.RowKit
set_option linter.unusedVariables false

def ResSubExpr (R0 : List (Nd)) (R1 : Bool) (w : World) (e : Ending) (w' : World) : Prop := ∃ (A0 : Option Addr) (c0 : Nat), e = .returned (.tuple #[.slice A0 R0.length c0, .bool R1]) ∧ OK Nd.enc 4 40 w' w.heap.size w'.heap.size (.slice A0 R0.length c0) R0 ∧ Below w.heap.size w w'
def ResFoldExpr (R0 : List (Nd)) (R1 : Bool) (w : World) (e : Ending) (w' : World) : Prop := ∃ (A0 : Option Addr) (c0 : Nat), e = .returned (.tuple #[.slice A0 R0.length c0, .bool R1]) ∧ OK Nd.enc 4 40 w' w.heap.size w'.heap.size (.slice A0 R0.length c0) R0 ∧ Below w.heap.size w w'
end Go.Proofs.Ytmhdijklindipaa

/- SubExpr: the model. -/
namespace Go.Proofs.Ytmhdijklindipaa
open Go.RowKit
set_option linter.unusedVariables false
set_option maxRecDepth 100000

def subOk (es : List Nd) (i : Int) : Bool := good es && inR i 0 ((es.length : Int) - 1)
def subR (es : List Nd) (i : Int) : List Nd := if subOk es i then keepL es i.toNat else []

set_option maxHeartbeats 8000000 in
theorem sSubExpr_any (L B : Nat) (A : Option Addr) (c : Nat) (es : List Nd) (i : Int) (w : World) (hl : es.length ≤ 1048576) (hes : NS w L B A es) (hB : B ≤ w.heap.size) :
    Calls Try.prog 94 #[.slice A es.length c, .int .i64 i] w (ResSubExpr (subR es i) (subOk es i) w) := by
  have H := Lib.hid (exGood_any L B A c es w hl hes hB)
  have hE := Lib.hid hes
  have hBB := Lib.hid hB
  clear hes hB
  cases hg : good es
  · have hR : Hid (subR es i = []) := by simp [Hid, subR, subOk, hg]
    have hK : Hid (subOk es i = false) := by simp [Hid, subOk, hg]
    rw [hg] at H
    clear hg
    go_enter Try.func94, Try.ntmps94
    go_wp2_with (fail)
    refine H.out.mono ?_
    rintro e w2 ⟨rfl, hb⟩
    go_wp2_with (fail)
    go_ret2
    rw [hR.out, hK.out]
    exact ⟨none, 0, rfl, OK.nil _ _ _ _, hb⟩
  · obtain ⟨hl1, hl24, hok⟩ := good_len hg
    have hG := Lib.hid hg
    have hOk := Lib.hid hok
    rw [hg] at H
    clear hg hok

    cases hr : inR i 0 ((es.length : Int) - 1)
    · have hR : Hid (subR es i = []) := by simp [Hid, subR, subOk, hr]
      have hK : Hid (subOk es i = false) := by simp [Hid, subOk, hr]
      have hIn := Lib.hid fun W => l1In_r i 0 ((es.length : Int) - 1) W
      rw [hr] at hIn
      clear hr
      go_enter Try.func94, Try.ntmps94
      go_wp2_with (fail)
      refine H.out.mono ?_
      rintro e w2 ⟨rfl, hb⟩
      have hb2 := Lib.hid hb
      clear hb
      go_wp2_with (fail)
      refine (hIn.out _).mono ?_
      rintro e w3 ⟨rfl, rfl⟩
      go_wp2_with (fail)
      go_ret2
      rw [hR.out, hK.out]
      exact ⟨none, 0, rfl, OK.nil _ _ _ _, hb2.out⟩
    · have hK : Hid (subOk es i = true) := by simp [Hid, subOk, hr, hG.out]
      have hR : Hid (subR es i = keepL es i.toNat) := by simp [Hid, subR, hK.out]
      have hIn := Lib.hid fun W => l1In_r i 0 ((es.length : Int) - 1) W
      have h4 := (inR_iff _ _ _).1 hr
      rw [hr] at hIn
      clear hr
      obtain ⟨q, rfl⟩ := Int.eq_ofNat_of_zero_le h4.1
      have hq : q < es.length := by omega
      rw [Int.toNat_natCast] at hR
      go_enter Try.func94, Try.ntmps94
      go_wp2_with (fail)
      refine H.out.mono ?_
      rintro e w2 ⟨rfl, hb⟩
      have hb2 := Lib.hid hb
      have hX := Lib.hid (exKeep_any L B A c q es w2 hl24 hq (hE.out.below hb hBB.out) (Nat.le_trans hBB.out hb.size) hOk.out)
      clear hb
      go_wp2_with (fail)
      refine (hIn.out _).mono ?_
      rintro e w3 ⟨rfl, rfl⟩
      go_wp2_with (fail)
      refine hX.out.mono ?_
      rintro e w4 ⟨A', c', rfl, ho, hb4⟩
      have ho4 := Lib.hid ho
      have hb5 := Lib.hid (hb2.out.trans (hb4.mono hb2.out.size))
      have hz := hb2.out.size
      clear ho hb4
      go_wp2_with (fail)
      go_ret2
      rw [hR.out, hK.out]
      exact ⟨A', c', rfl, ho4.out.lower hz, hb5.out⟩
end Go.Proofs.Ytmhdijklindipaa

/- What is kept for a root is an expression of the root's term. No program. -/
namespace Go.Proofs.Ytmhdijklindipaa
open Go.RowKit
set_option linter.unusedVariables false

theorem setAll_or {i : Nat} (ps : List Int) : ∀ b, (setAll ps b).getD i false = true → b.getD i false = true ∨ ∃ p ∈ ps, p.toNat = i := fun b h => by
  by_cases h1 : ∃ p ∈ ps, p.toNat = i
  · exact .inr h1
  · left
    rw [setAll_get ps b (fun p hp e => h1 ⟨p, hp, e⟩)] at h; exact h
theorem setB_get {b : List Bool} {i k : Nat} (h : b.getD i false = true) : (b.set k true).getD i false = true := by
  rw [List.getD_eq_getElem?_getD] at h ⊢
  rw [List.getElem?_set]
  by_cases e : k = i
  · subst e
    rw [if_pos rfl]
    split
    · rfl
    · rename_i hge; rw [List.getElem?_eq_none (by omega)] at h; cases h
  · rw [if_neg e]; exact h
theorem setAll_mono {i : Nat} (ps : List Int) : ∀ b, b.getD i false = true → (setAll ps b).getD i false = true := by
  induction ps with
  | nil => intro b h; exact h
  | cons a l ih => intro b h; show (setAll l (b.set a.toNat true)).getD i false = true; exact ih _ (setB_get h)
theorem setAll_yes {p : Int} (ps : List Int) : ∀ b, p ∈ ps → p.toNat < b.length → (setAll ps b).getD p.toNat false = true := by
  induction ps with
  | nil => intro b h; cases h
  | cons a l ih =>
    intro b h hl
    show (setAll l (b.set a.toNat true)).getD p.toNat false = true
    rcases List.mem_cons.1 h with rfl | h
    · refine setAll_mono l _ ?_
      rw [List.getD_eq_getElem?_getD, List.getElem?_set_self hl]; rfl
    · exact ih _ h (by rw [List.length_set]; exact hl)
theorem nfull_eq (n : Nd) (i : Nat) (b : List Bool) : nfull n i b = if b.getD i false = true then setAll (parts n) b else b := by
  unfold nfull nstep; rw [List.take_length]
theorem need_mono {es : List Nd} {root : Nat} (hr : root < es.length) {i : Nat} : ∀ d m, m + d ≤ root + 1 → (needTo es root (m + d)).getD i false = true → (needTo es root m).getD i false = true
  | 0, m, _, h => h
  | d + 1, m, hm, h => by
    have h1 := need_mono hr d (m + 1) (by omega) (by rw [show m + 1 + d = m + (d + 1) by omega]; exact h)
    rw [needTo_step (by omega) hr, nfull_eq]
    split
    · exact setAll_mono _ _ h1
    · exact h1
theorem need_same {es : List Nd} (hok : okFrom es 0 = true) {root : Nat} (hr : root < es.length) {i : Nat} : ∀ d m, m + d ≤ root + 1 → m + d ≤ i + 1 → (needTo es root m).getD i false = (needTo es root (m + d)).getD i false
  | 0, m, _, _ => rfl
  | d + 1, m, hm, hi => by
    have h1 := need_same hok hr (i := i) d (m + 1) (by omega) (by omega)
    rw [needTo_step (by omega) hr, nfull_eq, show m + (d + 1) = m + 1 + d by omega, ← h1]
    split
    · exact setAll_get _ _ fun p hp => by have := (parts_in (ok_get hok (show m < es.length by omega)) p hp).2; omega
    · rfl
theorem need_at {es : List Nd} (hok : okFrom es 0 = true) {root i : Nat} (hr : root < es.length) (hi : i ≤ root) : (need es root).getD i false = (needTo es root (i + 1)).getD i false := by
  have := need_same hok hr (i := i) (i + 1) 0 (by omega) (by omega)
  rw [Nat.zero_add] at this; exact this
theorem need_root {es : List Nd} (hok : okFrom es 0 = true) {root : Nat} (hr : root < es.length) : (need es root).getD root false = true := by
  rw [need_at hok hr (Nat.le_refl _), needTo_start, List.getD_eq_getElem?_getD, List.getElem?_set_self (by simp)]; rfl
theorem need_parts {es : List Nd} (hok : okFrom es 0 = true) {root k : Nat} (hr : root < es.length) (hk : k ≤ root) (h : (need es root).getD k false = true) : ∀ p ∈ parts (es[k]'(by omega)), (need es root).getD p.toNat false = true := fun p hp => by
  have hpk := (parts_in (ok_get hok (show k < es.length by omega)) p hp).2
  rw [need_at hok hr hk] at h
  rw [need_at hok hr (show p.toNat ≤ root by omega)]
  have h1 : (needTo es root k).getD p.toNat false = true := by
    rw [needTo_step hk hr, nfull_eq, if_pos h]
    exact setAll_yes _ _ hp (by rw [needTo_len]; omega)
  have := need_mono hr (i := p.toNat) (k - (p.toNat + 1)) (p.toNat + 1) (by omega) (by rw [show p.toNat + 1 + (k - (p.toNat + 1)) = k by omega]; exact h1)
  exact this
theorem need_used {es : List Nd} (hok : okFrom es 0 = true) {root : Nat} (hr : root < es.length) {i : Nat} : ∀ d m, m + d = root + 1 → (needTo es root m).getD i false = true → i = root ∨ ∃ k, ∃ hk : k ≤ root, (need es root).getD k false = true ∧ ∃ p ∈ parts (es[k]'(by omega)), p.toNat = i
  | 0, m, hm, h => by
    rw [show m = root + 1 by omega, needTo_start, List.getD_eq_getElem?_getD, List.getElem?_set] at h
    by_cases e : root = i
    · exact .inl e.symm
    · rw [if_neg e, List.getElem?_replicate] at h
      split at h <;> cases h
  | d + 1, m, hm, h => by
    rw [needTo_step (by omega) hr, nfull_eq] at h
    by_cases hb : (needTo es root (m + 1)).getD m false = true
    · rw [if_pos hb] at h
      rcases setAll_or _ _ h with h1 | ⟨p, hp, e⟩
      · exact need_used hok hr d (m + 1) (by omega) h1
      · exact .inr ⟨m, by omega, by rw [need_at hok hr (by omega)]; exact hb, p, hp, e⟩
    · rw [if_neg hb] at h
      exact need_used hok hr d (m + 1) (by omega) h

/-- What has been kept before k. -/
structure KI (es : List Nd) (nb : List Bool) (m k : Nat) : Prop where
  ok : okFrom (ke es nb m k) 0 = true
  at_ : ∀ j (hj : j < es.length), j < k → nb.getD j false = true → ∃ q : Nat, (pl es nb m k).getD j 0 = q ∧ q < (ke es nb m k).length ∧ tmE (ke es nb m k) q = tmE es j ∧ ∀ p ∈ parts es[j], ∃ s : Nat, (pl es nb m k).getD p.toNat 0 = s ∧ (s : Int) ∈ parts ((ke es nb m k).getD q zeroNd)
  all : ∀ q, q < (ke es nb m k).length → ∃ j, j < k ∧ nb.getD j false = true ∧ (pl es nb m k).getD j 0 = (q : Int)
theorem app_get {xs : List Nd} {y : Nd} {q : Nat} (h : q < xs.length) : (xs ++ [y]).getD q zeroNd = xs.getD q zeroNd := by
  rw [List.getD_eq_getElem?_getD, List.getElem?_append_left h, ← List.getD_eq_getElem?_getD]
theorem keep_inv {es : List Nd} (hok : okFrom es 0 = true) {nb : List Bool} {m : Nat} (hm : m ≤ es.length) (hcl : ∀ k (hk : k < m), nb.getD k false = true → ∀ p ∈ parts (es[k]'(by omega)), nb.getD p.toNat false = true) : ∀ k, k ≤ m → KI es nb m k
  | 0, _ => ⟨rfl, fun j _ h => by omega, fun q h => by simp [ke, kp] at h⟩
  | k + 1, hk => by
    have I := keep_inv hok hm hcl k (by omega)
    have hke : k < es.length := by omega
    have hpl := pl_len es nb m k
    cases hb : nb.getD k false
    · obtain ⟨e1, e2⟩ := kp_no (es := es) (m := m) hb
      refine ⟨by rw [e2]; exact I.ok, fun j hj hjk hjb => ?_, fun q hq => ?_⟩
      · rw [e1, e2]
        by_cases e : j = k
        · subst e; rw [hb] at hjb; cases hjb
        · exact I.at_ j hj (by omega) hjb
      · rw [e2] at hq
        obtain ⟨j, hj, hjb, e⟩ := I.all q hq
        exact ⟨j, by omega, hjb, by rw [e1]; exact e⟩
    · obtain ⟨e1, e2⟩ := kp_yes (m := m) hke hb
      have hcp := hcl k (by omega) hb
      have hat : ∀ p ∈ parts es[k], ∃ s : Nat, (pl es nb m k).getD p.toNat 0 = s ∧ s < (ke es nb m k).length ∧ tmE (ke es nb m k) s = tmE es p.toNat := fun p hp => by
        have h9 := (parts_in (ok_get hok hke) p hp).2
        obtain ⟨q, h1, h2, h3, _⟩ := I.at_ p.toNat (by omega) h9 (hcp p hp)
        exact ⟨q, h1, h2, h3⟩
      have hplc := isNode_place (ok_get hok hke)
      -- the new node
      have key : isNode (moved es[k] (pl es nb m k)) ((ke es nb m k).length : Int) = true ∧ (∀ p ∈ parts es[k], ∃ s : Nat, (pl es nb m k).getD p.toNat 0 = s ∧ (s : Int) ∈ parts (moved es[k] (pl es nb m k))) ∧ ∀ hok2 : okFrom (ke es nb m k ++ [moved es[k] (pl es nb m k)]) 0 = true, tmE (ke es nb m k ++ [moved es[k] (pl es nb m k)]) (ke es nb m k).length = tmE es k := by
        have hgl : ∀ (h : (ke es nb m k).length < (ke es nb m k ++ [moved es[k] (pl es nb m k)]).length), (ke es nb m k ++ [moved es[k] (pl es nb m k)])[(ke es nb m k).length]'h = moved es[k] (pl es nb m k) := fun h => by rw [List.getElem_append_right (Nat.le_refl _)]; simp
        have hlt : (ke es nb m k).length < (ke es nb m k ++ [moved es[k] (pl es nb m k)]).length := by simp
        rcases tmE_cases hok hke with ⟨h1, ha0, hb0, et⟩ | ⟨h1, h2, a, ea, ha, hb', et⟩ | ⟨h1, h2, h3, a, b, ea, eb, ha, hb', et⟩
        · have em : moved es[k] (pl es nb m k) = ⟨es[k].op, 0, 0, es[k].v⟩ := by unfold moved; rw [if_neg (by omega), if_neg (by omega)]
          have hp0 : parts es[k] = [] := by
            rcases ar_cases_nd (ok_get hok hke) with ⟨_, g, g2, _⟩ | ⟨g, _⟩ | ⟨g, _⟩
            · unfold parts; rw [g, g2]; rfl
            · omega
            · omega
          refine ⟨by rw [em]; exact hplc.1 h1 _, fun p hp => (by rw [hp0] at hp; cases hp), fun hok2 => ?_⟩
          rcases tmE_cases hok2 hlt with ⟨_, _, _, e⟩ | ⟨g, _⟩ | ⟨g, _⟩
          · rw [e, hgl, em, et]
          · rw [hgl, em] at g; simp only at g; omega
          · rw [hgl, em] at g; simp only at g; omega
        · have hp0 : parts es[k] = [(a : Int)] := by unfold parts; rw [if_pos h2, ea]
          obtain ⟨s, s1, s2, s3⟩ := hat (a : Int) (by rw [hp0]; simp)
          rw [Int.toNat_natCast] at s1 s3
          have em : moved es[k] (pl es nb m k) = ⟨es[k].op, (s : Int), 0, es[k].v⟩ := by unfold moved; rw [if_pos (by omega), if_neg (by omega), ea, Int.toNat_natCast, s1]
          refine ⟨by rw [em]; exact hplc.2.1 h1 _ _ (by omega) (by omega), fun p hp => ?_, fun hok2 => ?_⟩
          · rw [hp0] at hp; rw [List.mem_singleton.1 hp, Int.toNat_natCast]
            exact ⟨s, s1, by rw [em]; unfold parts; rw [if_pos h2]; simp⟩
          · rcases tmE_cases hok2 hlt with ⟨g, _⟩ | ⟨_, _, a', ea', ha', _, e⟩ | ⟨g, _⟩
            · rw [hgl, em] at g; simp only at g; omega
            · rw [hgl, em] at e ea'
              simp only at e ea'
              obtain rfl : a' = s := by omega
              rw [em, e, tmE_app I.ok s2, s3, et]
            · rw [hgl, em] at g; simp only at g; omega
        · have hp0 : parts es[k] = [(a : Int), (b : Int)] := by unfold parts; rw [if_neg (by simp [h2]), if_pos h3, ea, eb]
          obtain ⟨s, s1, s2, s3⟩ := hat (a : Int) (by rw [hp0]; simp)
          obtain ⟨t, t1, t2, t3⟩ := hat (b : Int) (by rw [hp0]; simp)
          rw [Int.toNat_natCast] at s1 s3 t1 t3
          have em : moved es[k] (pl es nb m k) = ⟨es[k].op, (s : Int), (t : Int), es[k].v⟩ := by unfold moved; rw [if_pos (by omega), if_pos (by omega), ea, eb, Int.toNat_natCast, Int.toNat_natCast, s1, t1]
          refine ⟨by rw [em]; exact hplc.2.2 h1 _ _ _ (by omega) (by omega) (by omega) (by omega), fun p hp => ?_, fun hok2 => ?_⟩
          · rw [hp0] at hp
            rcases List.mem_cons.1 hp with rfl | hp
            · rw [Int.toNat_natCast]; exact ⟨s, s1, by rw [em]; unfold parts; rw [if_neg (by simp [h2]), if_pos h3]; simp⟩
            · rw [List.mem_singleton.1 hp, Int.toNat_natCast]; exact ⟨t, t1, by rw [em]; unfold parts; rw [if_neg (by simp [h2]), if_pos h3]; simp⟩
          · rcases tmE_cases hok2 hlt with ⟨g, _⟩ | ⟨g, _⟩ | ⟨_, _, _, a', b', ea', eb', ha', hb'', e⟩
            · rw [hgl, em] at g; simp only at g; omega
            · rw [hgl, em] at g; simp only at g; omega
            · rw [hgl, em] at e ea' eb'
              simp only at e ea' eb'
              obtain rfl : a' = s := by omega
              obtain rfl : b' = t := by omega
              rw [em, e, tmE_app I.ok s2, tmE_app I.ok t2, s3, t3, et]
      obtain ⟨k1, k2, k3⟩ := key
      have hok2 : okFrom (ke es nb m k ++ [moved es[k] (pl es nb m k)]) 0 = true := by rw [okFrom_snoc, I.ok, Int.zero_add, k1]; rfl
      have k3 := k3 hok2
      have hpk : ∀ p ∈ parts es[k], p.toNat < k := fun p hp => (parts_in (ok_get hok hke) p hp).2
      refine ⟨by rw [e2]; exact hok2, fun j hj hjk hjb => ?_, fun q hq => ?_⟩
      · rw [e1, e2]
        by_cases e : j = k
        · subst e
          refine ⟨(ke es nb m j).length, ?_, by simp, k3, fun p hp => ?_⟩
          · rw [List.getD_eq_getElem?_getD, List.getElem?_set_self (by omega)]; rfl
          · obtain ⟨s, s1, s2⟩ := k2 p hp
            refine ⟨s, by rw [getD_set_lt _ (hpk p hp)]; exact s1, ?_⟩
            have hl : (ke es nb m j ++ [moved es[j] (pl es nb m j)]).getD (ke es nb m j).length zeroNd = moved es[j] (pl es nb m j) := by rw [List.getD_eq_getElem?_getD, List.getElem?_append_right (Nat.le_refl _), Nat.sub_self]; rfl
            rw [hl]; exact s2
        · obtain ⟨q, q1, q2, q3, q4⟩ := I.at_ j hj (by omega) hjb
          refine ⟨q, by rw [getD_set_lt _ (by omega)]; exact q1, by rw [List.length_append]; omega, by rw [tmE_app I.ok q2]; exact q3, fun p hp => ?_⟩
          obtain ⟨s, s1, s2⟩ := q4 p hp
          have h9 := (parts_in (ok_get hok hj) p hp).2
          exact ⟨s, by rw [getD_set_lt _ (by omega)]; exact s1, by rw [app_get q2]; exact s2⟩
      · rw [e2, List.length_append, List.length_singleton] at hq
        rw [e1]
        by_cases e : q < (ke es nb m k).length
        · obtain ⟨j, hj, hjb, h⟩ := I.all q e
          exact ⟨j, by omega, hjb, by rw [getD_set_lt _ (by omega)]; exact h⟩
        · obtain rfl : q = (ke es nb m k).length := by omega
          exact ⟨k, by omega, hb, by rw [List.getD_eq_getElem?_getD, List.getElem?_set_self (by omega)]; rfl⟩
theorem keep_facts {es : List Nd} (hok : okFrom es 0 = true) (h24 : es.length ≤ 24) {r : Nat} (hr : r < es.length) :
    good (keepL es r) = true ∧ tmE (keepL es r) ((keepL es r).length - 1) = tmE es r := by
  have hcl : ∀ k (hk : k < r + 1), (need es r).getD k false = true → ∀ p ∈ parts (es[k]'(by omega)), (need es r).getD p.toNat false = true := fun k hk h => need_parts hok hr (by omega) h
  have I := keep_inv hok (m := r + 1) (by omega) hcl (r + 1) (Nat.le_refl _)
  have hle := ke_len es (need es r) (r + 1) (r + 1)
  have hroot := need_root hok hr
  obtain ⟨e1, e2⟩ := kp_yes (m := r + 1) hr hroot
  have hlast : (pl es (need es r) (r + 1) (r + 1)).getD r 0 = ((ke es (need es r) (r + 1) (r + 1)).length : Int) - 1 := by
    rw [e1, e2, List.getD_eq_getElem?_getD, List.getElem?_set_self (by rw [pl_len]; omega), List.length_append, List.length_singleton]
    show ((ke es (need es r) (r + 1) r).length : Int) = _
    omega
  have hpos : 1 ≤ (ke es (need es r) (r + 1) (r + 1)).length := by rw [e2, List.length_append, List.length_singleton]; omega
  unfold keepL
  obtain ⟨q, q1, q2, q3, _⟩ := I.at_ r hr (by omega) hroot
  have hq : q = (ke es (need es r) (r + 1) (r + 1)).length - 1 := by omega
  subst hq
  refine ⟨good_of hpos (by omega) I.ok fun j hj => ?_, q3⟩
  obtain ⟨i, hi, hib, hip⟩ := I.all j (by omega)
  have hir : i ≠ r := fun e => by subst e; omega
  have h0 : (needTo es r 0).getD i false = true := hib
  rcases need_used hok hr (i := i) (r + 1) 0 (by omega) h0 with e | ⟨k, hk, hkb, p, hp, e⟩
  · exact absurd e hir
  · obtain ⟨s, s1, s2, s3, s4⟩ := I.at_ k (by omega) (by omega) hkb
    obtain ⟨t, t1, t2⟩ := s4 p hp
    rw [e, hip] at t1
    exact ⟨s, s2, by rw [t1]; exact t2⟩
/-- The values of a part are the values of its root. -/
theorem sub_val {es : List Nd} {i : Int} (h : subOk es i = true) (x0 x1 : Int) : good (subR es i) = true ∧ (vals (subR es i) x0 x1).getD ((subR es i).length - 1) 0 = (vals es x0 x1).getD i.toNat 0 ∧ 0 ≤ i ∧ i < es.length := by
  have h0 := h
  unfold subOk at h0
  rw [Bool.and_eq_true] at h0
  obtain ⟨hg, hi⟩ := h0
  have hi := (inR_iff _ _ _).1 hi
  obtain ⟨h1, h24, hok⟩ := good_len hg
  obtain ⟨g1, g2⟩ := keep_facts hok h24 (show i.toNat < es.length by omega)
  have e : subR es i = keepL es i.toNat := by unfold subR; rw [if_pos h]
  rw [e]
  obtain ⟨l1, _, hok2⟩ := good_len g1
  exact ⟨g1, by rw [vals_tm hok2 x0 x1 (by omega), vals_tm hok x0 x1 (by omega), g2], hi.1, by omega⟩
end Go.Proofs.Ytmhdijklindipaa

/- PutInput: what it answers. No program. -/
namespace Go.Proofs.Ytmhdijklindipaa
open Go.RowKit
set_option linter.unusedVariables false

/-- The nodes so far, and where the nodes seen stand. -/
def pst (es f : List Nd) (k : Int) : Nat → List Nd × List Int
  | 0 => (f, zeros es.length)
  | i + 1 => if isInp (es.getD i zeroNd) k = true then ((pst es f k i).1, (pst es f k i).2.set i ((f.length : Int) - 1)) else ((pst es f k i).1 ++ [moved (es.getD i zeroNd) (pst es f k i).2], (pst es f k i).2.set i ((pst es f k i).1.length : Int))
def po (es f : List Nd) (k : Int) (i : Nat) : List Nd := (pst es f k i).1
def pq (es f : List Nd) (k : Int) (i : Nat) : List Int := (pst es f k i).2
theorem po_zero (es f : List Nd) (k : Int) : po es f k 0 = f := rfl
theorem pq_zero (es f : List Nd) (k : Int) : pq es f k 0 = zeros es.length := rfl
theorem pst_yes {es f : List Nd} {k : Int} {i : Nat} (hi : i < es.length) (h : isInp es[i] k = true) : po es f k (i + 1) = po es f k i ∧ pq es f k (i + 1) = (pq es f k i).set i ((f.length : Int) - 1) := by
  have e : es.getD i zeroNd = es[i] := by rw [List.getD_eq_getElem?_getD, List.getElem?_eq_getElem hi]; rfl
  unfold po pq; rw [pst, e, if_pos h]; exact ⟨rfl, rfl⟩
theorem pst_no {es f : List Nd} {k : Int} {i : Nat} (hi : i < es.length) (h : isInp es[i] k = false) : po es f k (i + 1) = po es f k i ++ [moved es[i] (pq es f k i)] ∧ pq es f k (i + 1) = (pq es f k i).set i ((po es f k i).length : Int) := by
  have e : es.getD i zeroNd = es[i] := by rw [List.getD_eq_getElem?_getD, List.getElem?_eq_getElem hi]; rfl
  unfold po pq; rw [pst, e, if_neg (by rw [h]; decide)]; exact ⟨rfl, rfl⟩
theorem pq_len (es f : List Nd) (k : Int) : ∀ i, (pq es f k i).length = es.length := by
  intro i
  induction i with
  | zero => simp [pq, pst, zeros]
  | succ i ih =>
    unfold pq at ih ⊢; rw [pst]; split
    · simp only [List.length_set]; exact ih
    · simp only [List.length_set]; exact ih
theorem po_len (es f : List Nd) (k : Int) : ∀ i, f.length ≤ (po es f k i).length ∧ (po es f k i).length ≤ f.length + i := by
  intro i
  induction i with
  | zero => simp [po, pst]
  | succ i ih =>
    unfold po at ih ⊢; rw [pst]; split
    · exact ⟨ih.1, Nat.le_trans ih.2 (by omega)⟩
    · simp only [List.length_append, List.length_cons, List.length_nil]; omega
theorem po_mono (es f : List Nd) (k : Int) (i d : Nat) : (po es f k i).length ≤ (po es f k (i + d)).length := by
  induction d with
  | zero => exact Nat.le_refl _
  | succ d ih =>
    refine Nat.le_trans ih ?_
    rw [← Nat.add_assoc]
    unfold po; rw [pst]; split
    · exact Nat.le_refl _
    · simp
theorem po_over {es f : List Nd} {k : Int} {i : Nat} (hi : i ≤ es.length) (h : 24 < (po es f k i).length) : 24 < (po es f k es.length).length := by
  have := po_mono es f k i (es.length - i)
  rw [Nat.add_sub_cancel' hi] at this; omega
def putOk (es : List Nd) (k : Int) (f : List Nd) : Bool := good es && good f && inR k 0 1 && (!hasIn es k || decide ((po es f k es.length).length ≤ 24))
def putR (es : List Nd) (k : Int) (f : List Nd) : List Nd := if putOk es k f = true then (if hasIn es k = true then po es f k es.length else es) else []
theorem putR_no {es f : List Nd} {k : Int} (h : putOk es k f = false) : putR es k f = [] := by unfold putR; rw [h]; rfl
end Go.Proofs.Ytmhdijklindipaa

/- Plain facts of FnInputsPut. -/
namespace Go.Proofs.Ytmhdijklindipaa
open Go.RowKit
set_option linter.unusedVariables false

theorem psum_none {j : Nat} : ∀ {ps : List Int}, (∀ p ∈ ps, p.toNat ≠ j) → psum (fun k => if k = j then (1 : Int) else 0) ps = 0
  | [], _ => rfl
  | p :: ps, h => by
    have ih := psum_none (j := j) (ps := ps) fun q hq => h q (by simp [hq])
    have h1 := h p (by simp)
    simp only [psum, List.map_cons, List.sum_cons] at ih ⊢
    rw [if_neg h1, ih]; rfl
theorem used_of {es : List Nd} (hok : okFrom es 0 = true) {j : Nat} (hj : j < es.length) (h : (uses es).getD j 0 ≠ 0) : ∃ i, ∃ hi : i < es.length, (j : Int) ∈ parts es[i] := by
  by_cases hx : ∃ i, ∃ hi : i < es.length, (j : Int) ∈ parts es[i]
  · exact hx
  · exfalso; apply h
    have hp : ∀ k (h : k < es.length), ∀ p ∈ parts es[k], p.toNat < es.length := fun k h p hp => by have := (parts_in (ok_get hok h) p hp).2; omega
    have hU := nsum_uses (fun k => if k = j then (1 : Int) else 0) hp es.length (Nat.le_refl _)
    rw [nsum_ind (fun k => (usesAt es es.length).getD k 0) j, if_pos hj] at hU
    rw [nsum_congr es.length (h := fun _ => 0) (fun i hi => ?_), nsum_zero] at hU
    · unfold uses; exact hU
    · rw [getD_nd hi]
      refine psum_none fun p hp' e => hx ⟨i, hi, ?_⟩
      have := (parts_in (ok_get hok hi) p hp').1
      rw [show (j : Int) = p by omega]; exact hp'
theorem good_used {es : List Nd} (hg : good es = true) : (uses es).length = es.length ∧ (∀ j, j + 1 < es.length → (uses es).getD j 0 ≠ 0) ∧ (uses es).getD (es.length - 1) 0 = 0 ∧ (tree es = true → ∀ j, (uses es).getD j 0 ≤ 1) := by
  obtain ⟨h1, h24, hok⟩ := good_len hg
  have hlen : (uses es).length = es.length := usesAt_len _ _
  refine ⟨hlen, fun j hj e => ?_, ?_, fun ht j => ?_⟩
  · have hh : hasI ((uses es).take (es.length - 1)) 0 = false := by
      simp only [good, Bool.and_eq_true, Bool.not_eq_true'] at hg; exact hg.2
    unfold hasI at hh
    rw [List.any_eq_false] at hh
    have hmem : (uses es).getD j 0 ∈ (uses es).take (es.length - 1) := by
      rw [List.getD_eq_getElem?_getD, List.getElem?_eq_getElem (by omega), Option.getD_some, List.mem_take_iff_getElem]
      exact ⟨j, by omega, rfl⟩
    have := hh _ hmem
    rw [e] at this; simp at this
  · by_cases h : (uses es).getD (es.length - 1) 0 = 0
    · exact h
    · obtain ⟨i, hi, hm⟩ := used_of hok (show es.length - 1 < es.length by omega) h
      have := (parts_in (ok_get hok hi) _ hm).2
      rw [Int.toNat_natCast] at this; omega
  · unfold tree allR at ht
    rw [List.all_eq_true] at ht
    rcases Nat.lt_or_ge j (uses es).length with h | h
    · have hm : (uses es).getD j 0 ∈ uses es := by rw [List.getD_eq_getElem?_getD, List.getElem?_eq_getElem h]; exact List.getElem_mem _
      exact ((inR_iff _ _ _).1 (ht _ hm)).2
    · rw [List.getD_eq_getElem?_getD, List.getElem?_eq_none h]; decide
theorem used_in {es : List Nd} (hg : good es = true) {j : Nat} (hj : j + 1 < es.length) : ∃ i, ∃ hi : i < es.length, j < i ∧ (j : Int) ∈ parts es[i] := by
  obtain ⟨h1, h24, hok⟩ := good_len hg
  obtain ⟨i, hi, hm⟩ := used_of hok (by omega) ((good_used hg).2.1 j hj)
  have := (parts_in (ok_get hok hi) _ hm).2
  rw [Int.toNat_natCast] at this
  exact ⟨i, hi, this, hm⟩

/-- The values behind the nodes seen so far. -/
structure PI (es f : List Nd) (k : Int) (i : Nat) : Prop where
  ok : okFrom (po es f k i) 0 = true
  pre : ∃ zs, po es f k i = f ++ zs
  at_ : ∀ j (hj : j < es.length), j < i → ∃ q : Nat, (pq es f k i).getD j 0 = q ∧ q < (po es f k i).length ∧
    (∀ x0 x1 : Int, (tmE (po es f k i) q).ev x0 x1 = (tmE es j).ev (if k = 1 then x0 else (tmE f (f.length - 1)).ev x0 x1) (if k = 1 then (tmE f (f.length - 1)).ev x0 x1 else x1)) ∧
    (∀ p ∈ parts es[j], ∃ s : Nat, (pq es f k i).getD p.toNat 0 = s ∧ (s : Int) ∈ parts ((po es f k i).getD q zeroNd)) ∧ (isInp es[j] k = true → q + 1 = f.length) ∧ (isInp es[j] k = false → j + 1 = i → q + 1 = (po es f k i).length)
  all : ∀ q, f.length ≤ q → q < (po es f k i).length → ∃ j, ∃ hj : j < es.length, j < i ∧ isInp es[j] k = false ∧ (pq es f k i).getD j 0 = (q : Int)
theorem put_inv {es f : List Nd} {k : Int} (hok : okFrom es 0 = true) (hk : k = 0 ∨ k = 1) (hf : okFrom f 0 = true) (hf1 : 1 ≤ f.length) : ∀ i, i ≤ es.length → PI es f k i
  | 0, _ => ⟨hf, ⟨[], by rw [po_zero, List.append_nil]⟩, fun j _ h => by omega, fun q h1 h2 => by rw [po_zero] at h2; omega⟩
  | i + 1, hi => by
    have I := put_inv (k := k) hok hk hf hf1 i (by omega)
    have hie : i < es.length := by omega
    have hpl := pq_len es f k i
    have hpp : ∀ j (hj : j < es.length), ∀ p ∈ parts es[j], p.toNat < j := fun j hj p hp => (parts_in (ok_get hok hj) p hp).2
    obtain ⟨z, hz⟩ := I.pre
    cases hb : isInp es[i] k
    · obtain ⟨e1, e2⟩ := pst_no hie hb
      have hat : ∀ p ∈ parts es[i], ∃ s : Nat, (pq es f k i).getD p.toNat 0 = s ∧ s < (po es f k i).length ∧ ∀ x0 x1 : Int, (tmE (po es f k i) s).ev x0 x1 = (tmE es p.toNat).ev (if k = 1 then x0 else (tmE f (f.length - 1)).ev x0 x1) (if k = 1 then (tmE f (f.length - 1)).ev x0 x1 else x1) := fun p hp => by
        obtain ⟨q, h1, h2, h3, _⟩ := I.at_ p.toNat (by have := hpp i hie p hp; omega) (hpp i hie p hp)
        exact ⟨q, h1, h2, h3⟩
      have hplc := isNode_place (ok_get hok hie)
      have key : isNode (moved es[i] (pq es f k i)) ((po es f k i).length : Int) = true ∧ (∀ p ∈ parts es[i], ∃ s : Nat, (pq es f k i).getD p.toNat 0 = s ∧ (s : Int) ∈ parts (moved es[i] (pq es f k i))) ∧ ∀ hok2 : okFrom (po es f k i ++ [moved es[i] (pq es f k i)]) 0 = true, ∀ x0 x1 : Int, (tmE (po es f k i ++ [moved es[i] (pq es f k i)]) (po es f k i).length).ev x0 x1 = (tmE es i).ev (if k = 1 then x0 else (tmE f (f.length - 1)).ev x0 x1) (if k = 1 then (tmE f (f.length - 1)).ev x0 x1 else x1) := by
        have hgl : ∀ (h : (po es f k i).length < (po es f k i ++ [moved es[i] (pq es f k i)]).length), (po es f k i ++ [moved es[i] (pq es f k i)])[(po es f k i).length]'h = moved es[i] (pq es f k i) := fun h => by rw [List.getElem_append_right (Nat.le_refl _)]; simp
        have hlt : (po es f k i).length < (po es f k i ++ [moved es[i] (pq es f k i)]).length := by simp
        rcases tmE_cases hok hie with ⟨h1, ha0, hb0, et⟩ | ⟨h1, h2, a, ea, ha, hb', et⟩ | ⟨h1, h2, h3, a, b, ea, eb, ha, hb', et⟩
        · have em : moved es[i] (pq es f k i) = ⟨es[i].op, 0, 0, es[i].v⟩ := by unfold moved; rw [if_neg (by omega), if_neg (by omega)]
          have hp0 : parts es[i] = [] := by
            rcases ar_cases_nd (ok_get hok hie) with ⟨_, g, g2, _⟩ | ⟨g, _⟩ | ⟨g, _⟩
            · unfold parts; rw [g, g2]; rfl
            · omega
            · omega
          refine ⟨by rw [em]; exact hplc.1 h1 _, fun p hp => (by rw [hp0] at hp; cases hp), fun hok2 x0 x1 => ?_⟩
          have et2 : tmE (po es f k i ++ [moved es[i] (pq es f k i)]) (po es f k i).length = .l es[i].op es[i].v := by
            rcases tmE_cases hok2 hlt with ⟨_, _, _, e⟩ | ⟨g, _⟩ | ⟨g, _⟩
            · rw [e, hgl, em]
            · rw [hgl, em] at g; simp only at g; omega
            · rw [hgl, em] at g; simp only at g; omega
          rw [et2, et]
          unfold Tm.ev
          cases hc : isConst es[i].op
          · have hin := ar0_in h1 hc
            have hv : es[i].v ≠ k := fun e => by unfold isInp at hb; rw [hin, e] at hb; simp at hb
            have hv01 : es[i].v = 0 ∨ es[i].v = 1 := by
              rcases node_kinds (ok_get hok hie) with ⟨g, _⟩ | ⟨_, _, g⟩ | ⟨_, g, _⟩ | ⟨_, g, _⟩
              · unfold isConst at hc; rw [g] at hc; simp at hc
              · exact g
              · unfold isIn at hin; rw [g] at hin; cases hin
              · unfold isIn at hin; rw [g] at hin; cases hin
            simp only [Bool.false_eq_true, if_false]
            rcases hk with rfl | rfl
            · rw [if_neg (by omega), if_neg (by omega), if_neg (by omega)]
            · rw [if_pos (by omega), if_pos (by omega), if_pos (by omega)]
          · rfl
        · have hp0 : parts es[i] = [(a : Int)] := by unfold parts; rw [if_pos h2, ea]
          obtain ⟨s, s1, s2, s3⟩ := hat (a : Int) (by rw [hp0]; simp)
          rw [Int.toNat_natCast] at s1 s3
          have em : moved es[i] (pq es f k i) = ⟨es[i].op, (s : Int), 0, es[i].v⟩ := by unfold moved; rw [if_pos (by omega), if_neg (by omega), ea, Int.toNat_natCast, s1]
          refine ⟨by rw [em]; exact hplc.2.1 h1 _ _ (by omega) (by omega), fun p hp => ?_, fun hok2 x0 x1 => ?_⟩
          · rw [hp0] at hp; rw [List.mem_singleton.1 hp, Int.toNat_natCast]
            exact ⟨s, s1, by rw [em]; unfold parts; rw [if_pos h2]; simp⟩
          · rcases tmE_cases hok2 hlt with ⟨g, _⟩ | ⟨_, _, a', ea', ha', _, e⟩ | ⟨g, _⟩
            · rw [hgl, em] at g; simp only at g; omega
            · rw [hgl, em] at e ea'
              simp only at e ea'
              obtain rfl : a' = s := by omega
              rw [em, e, tmE_app I.ok s2, et]
              unfold Tm.ev; rw [s3]
            · rw [hgl, em] at g; simp only at g; omega
        · have hp0 : parts es[i] = [(a : Int), (b : Int)] := by unfold parts; rw [if_neg (by simp [h2]), if_pos h3, ea, eb]
          obtain ⟨s, s1, s2, s3⟩ := hat (a : Int) (by rw [hp0]; simp)
          obtain ⟨t, t1, t2, t3⟩ := hat (b : Int) (by rw [hp0]; simp)
          rw [Int.toNat_natCast] at s1 s3 t1 t3
          have em : moved es[i] (pq es f k i) = ⟨es[i].op, (s : Int), (t : Int), es[i].v⟩ := by unfold moved; rw [if_pos (by omega), if_pos (by omega), ea, eb, Int.toNat_natCast, Int.toNat_natCast, s1, t1]
          refine ⟨by rw [em]; exact hplc.2.2 h1 _ _ _ (by omega) (by omega) (by omega) (by omega), fun p hp => ?_, fun hok2 x0 x1 => ?_⟩
          · rw [hp0] at hp
            rcases List.mem_cons.1 hp with rfl | hp
            · rw [Int.toNat_natCast]; exact ⟨s, s1, by rw [em]; unfold parts; rw [if_neg (by simp [h2]), if_pos h3]; simp⟩
            · rw [List.mem_singleton.1 hp, Int.toNat_natCast]; exact ⟨t, t1, by rw [em]; unfold parts; rw [if_neg (by simp [h2]), if_pos h3]; simp⟩
          · rcases tmE_cases hok2 hlt with ⟨g, _⟩ | ⟨g, _⟩ | ⟨_, _, _, a', b', ea', eb', ha', hb'', e⟩
            · rw [hgl, em] at g; simp only at g; omega
            · rw [hgl, em] at g; simp only at g; omega
            · rw [hgl, em] at e ea' eb'
              simp only at e ea' eb'
              obtain rfl : a' = s := by omega
              obtain rfl : b' = t := by omega
              rw [em, e, tmE_app I.ok s2, tmE_app I.ok t2, et]
              unfold Tm.ev; rw [s3, t3]
      obtain ⟨k1, k2, k3⟩ := key
      have hok2 : okFrom (po es f k i ++ [moved es[i] (pq es f k i)]) 0 = true := by rw [okFrom_snoc, I.ok, Int.zero_add, k1]; rfl
      have k3 := k3 hok2
      refine ⟨by rw [e1]; exact hok2, ⟨z ++ [moved es[i] (pq es f k i)], by rw [e1, hz, List.append_assoc]⟩, fun j hj hji => ?_, fun q hq1 hq2 => ?_⟩
      · rw [e1, e2]
        by_cases e : j = i
        · subst e
          refine ⟨(po es f k j).length, ?_, by simp, k3, fun p hp => ?_, fun h => (by rw [hb] at h; cases h), fun _ _ => by simp⟩
          · rw [List.getD_eq_getElem?_getD, List.getElem?_set_self (by omega)]; rfl
          · obtain ⟨s, s1, s2⟩ := k2 p hp
            refine ⟨s, by rw [getD_set_lt _ (hpp j hj p hp)]; exact s1, ?_⟩
            have hl : (po es f k j ++ [moved es[j] (pq es f k j)]).getD (po es f k j).length zeroNd = moved es[j] (pq es f k j) := by rw [List.getD_eq_getElem?_getD, List.getElem?_append_right (Nat.le_refl _), Nat.sub_self]; rfl
            rw [hl]; exact s2
        · obtain ⟨q, q1, q2, q3, q4, q5, q6⟩ := I.at_ j hj (by omega)
          refine ⟨q, by rw [getD_set_lt _ (by omega)]; exact q1, by rw [List.length_append]; omega, fun x0 x1 => by rw [tmE_app I.ok q2]; exact q3 x0 x1, fun p hp => ?_, q5, fun _ h => by omega⟩
          obtain ⟨s, s1, s2⟩ := q4 p hp
          have h9 := hpp j hj p hp
          exact ⟨s, by rw [getD_set_lt _ (by omega)]; exact s1, by rw [app_get q2]; exact s2⟩
      · rw [e1, List.length_append, List.length_singleton] at hq2
        rw [e2]
        by_cases e : q < (po es f k i).length
        · obtain ⟨j, hj, hji, hjb, h⟩ := I.all q hq1 e
          exact ⟨j, hj, by omega, hjb, by rw [getD_set_lt _ (by omega)]; exact h⟩
        · obtain rfl : q = (po es f k i).length := by omega
          exact ⟨i, hie, by omega, hb, by rw [List.getD_eq_getElem?_getD, List.getElem?_set_self (by omega)]; rfl⟩
    · obtain ⟨e1, e2⟩ := pst_yes hie hb
      have hfl := pre_len hz
      refine ⟨by rw [e1]; exact I.ok, ⟨z, by rw [e1]; exact hz⟩, fun j hj hji => ?_, fun q hq1 hq2 => ?_⟩
      · rw [e1, e2]
        by_cases e : j = i
        · subst e
          have hin : isIn es[j].op = true ∧ es[j].v = k := by unfold isInp at hb; simpa using hb
          have hop : es[j].op.toList = [105, 110] := by have := hin.1; unfold isIn at this; simpa using this
          have hc : isConst es[j].op = false := by unfold isConst; rw [hop]; rfl
          have h0 : ar es[j].op = 0 := by unfold ar; rw [hin.1]; rfl
          have hp0 : parts es[j] = [] := by
            rcases ar_cases_nd (ok_get hok hj) with ⟨_, g, g2, _⟩ | ⟨g, _⟩ | ⟨g, _⟩
            · unfold parts; rw [g, g2]; rfl
            · omega
            · omega
          have et : tmE es j = .l es[j].op es[j].v := by
            rcases tmE_cases hok hj with ⟨_, _, _, e⟩ | ⟨g, _⟩ | ⟨g, _⟩
            · exact e
            · omega
            · omega
          refine ⟨f.length - 1, ?_, by omega, fun x0 x1 => ?_, fun p hp => (by rw [hp0] at hp; cases hp), fun _ => by omega, fun h => (by rw [hb] at h; cases h)⟩
          · rw [List.getD_eq_getElem?_getD, List.getElem?_set_self (by omega)]
            show (f.length : Int) - 1 = _
            omega
          · rw [pre_tm hf hz (show f.length - 1 < f.length by omega), et]
            generalize (tmE f (f.length - 1)).ev x0 x1 = vf
            unfold Tm.ev
            rw [hc, hin.2]
            simp only [Bool.false_eq_true, if_false]
            rcases hk with rfl | rfl
            · simp
            · simp
        · obtain ⟨q, q1, q2, q3, q4, q5, q6⟩ := I.at_ j hj (by omega)
          refine ⟨q, by rw [getD_set_lt _ (by omega)]; exact q1, q2, q3, fun p hp => ?_, q5, fun _ h => by omega⟩
          obtain ⟨s, s1, s2⟩ := q4 p hp
          have h9 := hpp j hj p hp
          exact ⟨s, by rw [getD_set_lt _ (by omega)]; exact s1, s2⟩
      · rw [e1] at hq2
        rw [e2]
        obtain ⟨j, hj, hji, hjb, h⟩ := I.all q hq1 hq2
        exact ⟨j, hj, by omega, hjb, by rw [getD_set_lt _ (by omega)]; exact h⟩
/-- A leaf that is the root is all there is. -/
theorem leaf_root {es : List Nd} (hg : good es = true) (h : parts (es.getD (es.length - 1) zeroNd) = []) : es.length = 1 := by
  obtain ⟨h1, _, hok⟩ := good_len hg
  rcases Nat.lt_or_ge 1 es.length with h2 | h2
  · obtain ⟨i, hi, hlt, hm⟩ := used_in hg (show es.length - 2 + 1 < es.length by omega)
    obtain rfl : i = es.length - 1 := by omega
    rw [getD_nd hi] at h
    rw [h] at hm; cases hm
  · omega
/-- What stands behind an input's replacement: good, and evaluated there first. -/
theorem put_ev {es f : List Nd} {k : Int} (h : putOk es k f = true) : good (putR es k f) = true ∧ good es = true ∧ good f = true ∧ (k = 0 ∨ k = 1) ∧
    ∀ x0 x1 : Int, (tmE (putR es k f) ((putR es k f).length - 1)).ev x0 x1 = (tmE es (es.length - 1)).ev (if k = 1 then x0 else (tmE f (f.length - 1)).ev x0 x1) (if k = 1 then (tmE f (f.length - 1)).ev x0 x1 else x1) := by
  have h0 := h
  unfold putOk at h0
  simp only [Bool.and_eq_true, Bool.or_eq_true, Bool.not_eq_true'] at h0
  obtain ⟨⟨⟨hge, hgf⟩, hk⟩, hlen⟩ := h0
  have hk := (inR_iff _ _ _).1 hk
  have hk01 : k = 0 ∨ k = 1 := by omega
  obtain ⟨le, e24, hoe⟩ := good_len hge
  obtain ⟨lf, f24, hof⟩ := good_len hgf
  refine ⟨?_, hge, hgf, hk01, ?_⟩
  all_goals cases hin : hasIn es k
  · have e : putR es k f = es := by unfold putR; rw [if_pos h, if_neg (by rw [hin]; decide)]
    rw [e]; exact hge
  · have e : putR es k f = po es f k es.length := by unfold putR; rw [if_pos h, if_pos hin]
    have h24 : (po es f k es.length).length ≤ 24 := by
      rcases hlen with h9 | h9
      · rw [hin] at h9; cases h9
      · exact of_decide_eq_true h9
    have I := put_inv (k := k) hoe hk01 hof lf es.length (Nat.le_refl _)
    obtain ⟨z, hz⟩ := I.pre
    have hfl := pre_len hz
    rw [e]
    refine good_of (by omega) h24 I.ok fun q hq => ?_
    -- what is used in the expression is used in its place
    have huse : ∀ j (hj : j < es.length), j + 1 < es.length → (pq es f k es.length).getD j 0 = (q : Int) → ∃ i, i < (po es f k es.length).length ∧ (q : Int) ∈ parts ((po es f k es.length).getD i zeroNd) := fun j hj hj1 hjq => by
      obtain ⟨i, hi, _, hm⟩ := used_in hge hj1
      obtain ⟨p, p1, p2, p3, p4, _⟩ := I.at_ i hi hi
      obtain ⟨s, s1, s2⟩ := p4 _ hm
      rw [Int.toNat_natCast, hjq] at s1
      exact ⟨p, p2, by rw [s1]; exact s2⟩
    -- the root stands last
    have hroot : isInp (es[es.length - 1]'(by omega)) k = true → es.length = 1 ∧ (po es f k es.length).length = f.length := fun hr => by
      have hpn : parts (es.getD (es.length - 1) zeroNd) = [] := by
        rw [getD_nd (show es.length - 1 < es.length by omega)]
        have hin2 : isIn (es[es.length - 1]'(by omega)).op = true := by unfold isInp at hr; rw [Bool.and_eq_true] at hr; exact hr.1
        have h0 : ar (es[es.length - 1]'(by omega)).op = 0 := by unfold ar; rw [hin2]; rfl
        rcases ar_cases_nd (ok_get hoe (show es.length - 1 < es.length by omega)) with ⟨_, g, g2, _⟩ | ⟨g, _⟩ | ⟨g, _⟩
        · unfold parts; rw [g, g2]; rfl
        · omega
        · omega
      have h1 := leaf_root hge hpn
      refine ⟨h1, ?_⟩
      have hr0 : isInp (es[0]'(by omega)) k = true := by
        have : (es[es.length - 1]'(by omega)) = (es[0]'(by omega)) := by congr 1; omega
        rw [this] at hr; exact hr
      have := (pst_yes (f := f) (show 0 < es.length by omega) hr0).1
      rw [h1, this, po_zero]
    rcases Nat.lt_or_ge q (f.length - 1) with h1 | h1
    · obtain ⟨i, hi, _, hm⟩ := used_in hgf (show q + 1 < f.length by omega)
      exact ⟨i, by omega, by rw [pre_get hz hi, getD_nd hi]; exact hm⟩
    · rcases Nat.lt_or_ge q f.length with h2 | h2
      · -- the root of what is put
        have hex : ∃ j, ∃ hj : j < es.length, isInp es[j] k = true := by
          unfold hasIn at hin
          rw [List.any_eq_true] at hin
          obtain ⟨n, hn, hnk⟩ := hin
          obtain ⟨j, hj, rfl⟩ := List.getElem_of_mem hn
          exact ⟨j, hj, hnk⟩
        obtain ⟨j, hj, hjk⟩ := hex
        have hj1 : j + 1 < es.length := by
          rcases Nat.lt_or_ge (j + 1) es.length with h | h
          · exact h
          · obtain rfl : j = es.length - 1 := by omega
            have := (hroot hjk).2; omega
        obtain ⟨p, p1, p2, p3, p4, p5, _⟩ := I.at_ j hj hj
        have := p5 hjk
        exact huse j hj hj1 (by rw [p1]; omega)
      · obtain ⟨j, hj, _, hjk, hjq⟩ := I.all q h2 (by omega)
        have hj1 : j + 1 < es.length := by
          rcases Nat.lt_or_ge (j + 1) es.length with h | h
          · exact h
          · obtain ⟨p, p1, p2, p3, p4, p5, p6⟩ := I.at_ j hj hj
            have := p6 hjk (by omega); omega
        exact huse j hj hj1 hjq
  · have e : putR es k f = es := by unfold putR; rw [if_pos h, if_neg (by rw [hin]; decide)]
    rw [e]
    intro x0 x1
    -- an expression without the input does not look at it
    have hno : ∀ j (hj : j < es.length), isInp es[j] k = false := fun j hj => by
      unfold hasIn at hin
      rw [List.any_eq_false] at hin
      have := hin _ (List.getElem_mem hj)
      simpa using this
    have hall : ∀ n j, j < n → j < es.length → (tmE es j).ev x0 x1 = (tmE es j).ev (if k = 1 then x0 else (tmE f (f.length - 1)).ev x0 x1) (if k = 1 then (tmE f (f.length - 1)).ev x0 x1 else x1) := by
      intro n
      induction n with
      | zero => intro j h; omega
      | succ n ih =>
        intro j hjn hj
        rcases tmE_cases hoe hj with ⟨h1, _, _, et⟩ | ⟨h1, h2, a, ea, ha, _, et⟩ | ⟨h1, h2, h3, a, b, ea, eb, ha, hb, et⟩
        · rw [et]; unfold Tm.ev
          cases hc : isConst es[j].op
          · have hin2 := ar0_in h1 hc
            have hv : es[j].v ≠ k := fun e => by have := hno j hj; unfold isInp at this; rw [hin2, e] at this; simp at this
            have hv01 : es[j].v = 0 ∨ es[j].v = 1 := by
              rcases node_kinds (ok_get hoe hj) with ⟨g, _⟩ | ⟨_, _, g⟩ | ⟨_, g, _⟩ | ⟨_, g, _⟩
              · unfold isConst at hc; rw [g] at hc; simp at hc
              · exact g
              · unfold isIn at hin2; rw [g] at hin2; cases hin2
              · unfold isIn at hin2; rw [g] at hin2; cases hin2
            simp only [Bool.false_eq_true, if_false]
            rcases hk01 with rfl | rfl
            · rw [if_neg (by omega), if_neg (by omega), if_neg (by omega)]
            · rw [if_pos (by omega), if_pos (by omega), if_pos (by omega)]
          · rfl
        · rw [et]; unfold Tm.ev; rw [ih a (by omega) (by omega)]
        · rw [et]; unfold Tm.ev; rw [ih a (by omega) (by omega), ih b (by omega) (by omega)]
    exact hall es.length (es.length - 1) (by omega) (by omega)
  · have e : putR es k f = po es f k es.length := by unfold putR; rw [if_pos h, if_pos hin]
    have I := put_inv (k := k) hoe hk01 hof lf es.length (Nat.le_refl _)
    obtain ⟨z, hz⟩ := I.pre
    have hfl := pre_len hz
    rw [e]
    intro x0 x1
    obtain ⟨q, q1, q2, q3, q4, q5, q6⟩ := I.at_ (es.length - 1) (by omega) (by omega)
    have hq : q = (po es f k es.length).length - 1 := by
      cases hr : isInp (es[es.length - 1]'(by omega)) k
      · have := q6 hr (by omega); omega
      · have h1 := q5 hr
        have hpn : parts (es.getD (es.length - 1) zeroNd) = [] := by
          rw [getD_nd (show es.length - 1 < es.length by omega)]
          have hin2 : isIn (es[es.length - 1]'(by omega)).op = true := by unfold isInp at hr; rw [Bool.and_eq_true] at hr; exact hr.1
          have h0 : ar (es[es.length - 1]'(by omega)).op = 0 := by unfold ar; rw [hin2]; rfl
          rcases ar_cases_nd (ok_get hoe (show es.length - 1 < es.length by omega)) with ⟨_, g, g2, _⟩ | ⟨g, _⟩ | ⟨g, _⟩
          · unfold parts; rw [g, g2]; rfl
          · omega
          · omega
        have h2 := leaf_root hge hpn
        have hr0 : isInp (es[0]'(by omega)) k = true := by
          have : (es[es.length - 1]'(by omega)) = (es[0]'(by omega)) := by congr 1; omega
          rw [this] at hr; exact hr
        have h3 := (pst_yes (f := f) (show 0 < es.length by omega) hr0).1
        rw [h2, h3, po_zero]; omega
    rw [← hq]; exact q3 x0 x1
end Go.Proofs.Ytmhdijklindipaa

namespace Go.Proofs.Ytmhdijklindipaa
open Go.RowKit
set_option linter.unusedVariables false
set_option maxRecDepth 100000

def inputsL (es : List Nd) : List Int := twoOf (hasIn es 0) (hasIn es 1)
def inputsR (es : List Nd) : List Int := if good es = true then inputsL es else []
theorem inputsR_len (es : List Nd) : (inputsR es).length ≤ 1048576 := by
  unfold inputsR inputsL; split
  · have := twoOf_len (hasIn es 0) (hasIn es 1); omega
  · simp
theorem in_ok {es : List Nd} (hok : okFrom es 0 = true) : ∀ k (h : k < es.length), isIn es[k].op = true → es[k].v = 0 ∨ es[k].v = 1 := by
  intro k h hin
  have hn := ok_get hok h
  unfold isNode at hn
  rw [if_pos hin] at hn
  simp only [Bool.and_eq_true] at hn
  have := (inR_iff _ _ _).1 hn.2
  omega
theorem inTo_all {es : List Nd} (hok : okFrom es 0 = true) : inTo es es.length = inputsL es := by
  rw [inTo_eq (in_ok hok) _ (Nat.le_refl _), List.take_length]; rfl
theorem inTo_len {es : List Nd} (hok : okFrom es 0 = true) (k : Nat) (hk : k ≤ es.length) : (inTo es k).length ≤ 2 := by
  rw [inTo_eq (in_ok hok) _ hk]; exact twoOf_len _ _

set_option maxHeartbeats 2000000 in
theorem sInputsOf_any (L B : Nat) (A : Option Addr) (c : Nat) (es : List Nd) (w : World) (hl : es.length ≤ 1048576) (hes : NS w L B A es) (hB : B ≤ w.heap.size) :
    Calls Try.prog 104 #[.slice A es.length c] w (IntsRes w (inputsR es) (good es)) := by
  have H := Lib.hid (exGood_any L B A c es w hl hes hB)
  have hE := Lib.hid hes
  have hBB := Lib.hid hB
  clear hes hB
  cases hg : good es
  · have hR2 : Hid (inputsR es = []) := by simp [Hid, inputsR, hg]
    rw [hg] at H
    clear hg
    go_enter Try.func104, Try.ntmps104
    go_wp2_with (fail)
    refine H.out.mono ?_
    rintro e w2 ⟨rfl, hb⟩
    go_wp2_with (fail)
    go_ret2
    refine ⟨none, 0, ?_, ?_, hb⟩
    · rw [hR2.out]; rfl
    · rw [hR2.out]; exact OW.nil _ _ _
  have hR2 : Hid (inputsR es = inputsL es) := by simp [Hid, inputsR, hg]
  obtain ⟨hl1, hl24, hok⟩ := good_len hg
  have hOk := Lib.hid hok
  have hT := Lib.hid (inTo_all hok)
  rw [hg] at H
  clear hg hok
  go_enter Try.func104, Try.ntmps104
  go_wp2_with (fail)
  refine H.out.mono ?_
  rintro e w2 ⟨rfl, hb⟩
  have hbb := Lib.hid hb
  clear hb
  go_wp2
  go_loopw [4, 12] (fun v i wr => ∃ k : Nat, k ≤ es.length ∧ i = .int .i64 k ∧ OW wr w.heap.size wr.heap.size v (inTo es k) ∧ Below w.heap.size w wr) (fun _ i _ => es.length - (intOf i).toNat)
  case atStart => exact ⟨0, Nat.zero_le _, rfl, OW.nil _ _ _, hbb.out⟩
  case round =>
    obtain ⟨k, hk, rfl, how, hbel⟩ := hrel
    obtain ⟨V, cv, rfl, _⟩ := how.form
    have hOW := Lib.hid how
    have hBL := Lib.hid hbel
    have hsz := hbel.size
    have hIL := Lib.hid (inTo_len hOk.out k hk)
    clear how
    by_cases hlt : k < es.length
    · obtain ⟨b, o, rfl, ⟨_, hbB⟩, hc⟩ := (hE.out.below hbel hBB.out) (by omega)
      obtain ⟨c1, c2, c3, c4⟩ := hc k hlt
      clear hc hbel
      have hS := Lib.hid (inTo_succ hlt)
      generalize es[k] = nd at *
      generalize inTo es k = xs at *
      obtain ⟨s, a, bb, v⟩ := nd
      have hbz := Lib.hid (hBL.out.alloc hsz (.cells #[.string s, .int .i64 a, .int .i64 bb, .int .i64 v] 40))
      have hoz := Lib.hid (hOW.out.below ((Below.refl wr.heap.size wr).alloc (Nat.le_refl _) (.cells #[.string s, .int .i64 a, .int .i64 bb, .int .i64 v] 40)) (Nat.le_refl _))
      cases hin : isIn s
      · have h1 : (s.toList == [105, 110]) = false := hin
        have hx : Hid (inTo es (k + 1) = xs) := by rw [Hid, hS.out, inStep]; simp [hin]
        clear hin
        go_wp2
        go_roundw
        case rel => exact ⟨k + 1, by omega, by go_num, by rw [hx.out]; exact hoz.out.more (by simp), hbz.out⟩
        case measure => simp [intOf]; omega
      · have h1 : s.toList = [105, 110] := by simpa [isIn] using hin
        have hx : Hid (inTo es (k + 1) = put xs v) := by rw [Hid, hS.out, inStep]; simp [hin]
        clear hin
        go_wp2_with (fail)
        refine (l1Put_any w.heap.size wr.heap.size V xs.length cv xs v _ rfl (by have := hIL.out; omega) hoz.out (by have := hBL.out.size; simp; omega) (by simp)).mono ?_
        rintro e w3 ⟨V3, c3', rfl, ho3, hb3⟩
        have hO3 := Lib.hid ho3
        have hB3 := Lib.hid (hbz.out.trans (hb3.mono hbz.out.size))
        clear ho3 hb3
        go_wp2
        go_roundw
        case rel => exact ⟨k + 1, by omega, by go_num, by rw [hx.out]; exact hO3.out, hB3.out⟩
        case measure => simp [intOf]; omega
    · obtain rfl : k = es.length := by omega
      rw [hT.out] at hOW
      have hlen : Hid ((inTo es es.length).length = (inputsL es).length) := by rw [Hid, hT.out]
      go_wp2
      go_ret2
      rw [hR2.out]
      exact ⟨V, cv, by rw [hlen.out]; rfl, hOW.out, hBL.out⟩
end Go.Proofs.Ytmhdijklindipaa
