/- Texts of this proof, one behind the other: FNA, RQ, RV, LawFR, OC, OB. -/
import Derived.Test.YtmhdijklindipaaZ3
import Derived.Test.YtmhdijklindipaaZ10
import Derived.Test.YtmhdijklindipaaZ11
import Derived.Test.YtmhdijklindipaaZ2
import Derived.Test.YtmhdijklindipaaZ13
import Derived.Lib.Hide
import Derived.WalkKit
import Derived.WalkSpells
import Derived.WalkLawsBesides
import Derived.Deep.RegionHeld3
import Derived.Test.YtmhdijklindipaaZ9
import Derived.Test.YtmhdijklindipaaZ8
import Derived.Test.YtmhdijklindipaaCF
import Derived.Deep.QuietTactic
import Derived.BigQuiet
import Derived.Deep.RegionLaw
import Derived.Test.YtmhdijklindipaaKMInstr
import Derived.ProofKit
import Derived.OpenShut
import Derived.ShutString
import Derived.ChangeOld
import Derived.Below
import Derived.Deep.Slices
import Derived.Deep.Fields
import Derived.Test.YtmhdijklindipaaRows
import Derived.Test.YtmhdijklindipaaDR1
/- Chapter 2, plain: swapped neighbours, renamed registers, dead code. -/
namespace Go.Proofs.Ytmhdijklindipaa
open Go.RowKit
set_option linter.unusedVariables false
set_option maxRecDepth 100000

theorem mem_put1 (a b r : Int) : r ∈ put (put [] a) b ↔ r = a ∨ r = b := by
  rw [put_nil]
  unfold put
  by_cases h1 : a < b
  · simp [h1]
  · by_cases h2 : a = b
    · subst h2; simp
    · simp [h1, h2]; exact or_comm
theorem mem_reads {x : In} {r : Int} : r ∈ readsL x ↔ ((fm x.op).a = true ∧ r = x.a) ∨ ((fm x.op).b = true ∧ r = x.b) := by
  cases ha : (fm x.op).a <;> cases hb : (fm x.op).b
  · rw [reads_ff x (a := true) (b := true) ha hb]; simp
  · rw [reads_ft x ha hb, put_nil]; simp
  · rw [reads_tf x ha hb, put_nil]; simp
  · rw [reads_tt x ha hb, mem_put1]; simp
theorem vOf_a {s : ByteArray} (hok : (fm s).ok = true) (h : (fm s).a = false) (m a a' b : Int) : vOf s m a b = vOf s m a' b := by
  rcases cop_cases s with h1|h1|h1|h1|h1|h1|h1|h1|h1|h1|h1|h1|h1|h1|h1|h1|h1|h1|h1|h1|h1
  all_goals first | (simp [vOf, h1]; done) | (simp [fm, h1] at h; done) | (rw [fm_no h1] at hok; cases hok)
theorem vOf_b {s : ByteArray} (hok : (fm s).ok = true) (h : (fm s).b = false) (m a b b' : Int) : vOf s m a b = vOf s m a b' := by
  rcases cop_cases s with h1|h1|h1|h1|h1|h1|h1|h1|h1|h1|h1|h1|h1|h1|h1|h1|h1|h1|h1|h1|h1
  all_goals first | (simp [vOf, ap, h1]; done) | (simp [fm, h1] at h; done) | (rw [fm_no h1] at hok; cases hok)
theorem vOf_reads {x : In} {rs rs' : List Int} (hx : goodIn x = true) (h : ∀ r ∈ readsL x, rs.getD r.toNat 0 = rs'.getD r.toNat 0) :
    vOf x.op x.m (rs.getD x.a.toNat 0) (rs.getD x.b.toNat 0) = vOf x.op x.m (rs'.getD x.a.toNat 0) (rs'.getD x.b.toNat 0) := by
  have hok := (good_parts hx).2.2.2.1
  have e1 : vOf x.op x.m (rs.getD x.a.toNat 0) (rs.getD x.b.toNat 0) = vOf x.op x.m (rs'.getD x.a.toNat 0) (rs.getD x.b.toNat 0) := by
    cases ha : (fm x.op).a
    · exact vOf_a hok ha _ _ _ _
    · rw [h x.a (mem_reads.2 (.inl ⟨ha, rfl⟩))]
  have e2 : vOf x.op x.m (rs'.getD x.a.toNat 0) (rs.getD x.b.toNat 0) = vOf x.op x.m (rs'.getD x.a.toNat 0) (rs'.getD x.b.toNat 0) := by
    cases hb : (fm x.op).b
    · exact vOf_b hok hb _ _ _ _
    · rw [h x.b (mem_reads.2 (.inr ⟨hb, rfl⟩))]
  rw [e1, e2]
theorem getD_set9 {xs : List Int} {k i : Nat} (v : Int) (hk : k < xs.length) : (xs.set k v).getD i 0 = if k = i then v else xs.getD i 0 := by
  rw [List.getD_eq_getElem?_getD, List.getElem?_set]
  by_cases e : k = i
  · subst e; simp [hk]
  · rw [if_neg e, if_neg e, ← List.getD_eq_getElem?_getD]
theorem stepL_len (x : In) (rs : List Int) : (stepL x rs).length = rs.length := by unfold stepL; rw [List.length_set]
theorem runL_len (es : List In) : ∀ rs, (runL es rs).length = rs.length := by
  induction es with
  | nil => intro rs; rfl
  | cons x l ih => intro rs; show (runL l (stepL x rs)).length = _; rw [ih, stepL_len]
theorem runL_app (a b : List In) (rs : List Int) : runL (a ++ b) rs = runL b (runL a rs) := by unfold runL; rw [List.foldl_append]
theorem runL_cons (x : In) (l : List In) (rs : List Int) : runL (x :: l) rs = runL l (stepL x rs) := rfl
theorem sumC_from (es : List In) : ∀ n, es.foldl (fun n x => n + (fm x.op).c) n = n + sumC es := by
  unfold sumC
  induction es with
  | nil => intro n; simp
  | cons x l ih => intro n; rw [List.foldl_cons, List.foldl_cons, ih, ih (0 + _)]; omega
theorem sumC_cons (x : In) (l : List In) : sumC (x :: l) = (fm x.op).c + sumC l := by
  show (x :: l).foldl _ 0 = _
  rw [List.foldl_cons, sumC_from]; omega
theorem sumC_app (a b : List In) : sumC (a ++ b) = sumC a + sumC b := by
  induction a with
  | nil => simp [sumC]
  | cons x l ih => rw [List.cons_append, sumC_cons, sumC_cons, ih]; omega
theorem step_get {x : In} {rs : List Int} (hx : goodIn x = true) (hl : rs.length = 6) (i : Nat) : (stepL x rs).getD i 0 = if x.d.toNat = i then vOf x.op x.m (rs.getD x.a.toNat 0) (rs.getD x.b.toNat 0) else rs.getD i 0 := by
  have hd := (good_parts hx).1
  exact getD_set9 _ (by omega)

/- Independent neighbours. -/
theorem step_swap {x y : In} {rs : List Int} (hx : goodIn x = true) (hy : goodIn y = true) (hf : freeB x y = true) (hl : rs.length = 6) : stepL y (stepL x rs) = stepL x (stepL y rs) := by
  have hdx := (good_parts hx).1
  have hdy := (good_parts hy).1
  unfold freeB at hf
  simp only [Bool.and_eq_true, Bool.not_eq_true'] at hf
  obtain ⟨⟨h1, h2⟩, h3⟩ := hf
  have hne : x.d ≠ y.d := by simpa using h1
  have hmem : ∀ {l : List Int} {n : Int}, hasI l n = false → ∀ r ∈ l, r ≠ n := fun {l n} h r hr e => by
    unfold hasI at h
    rw [List.any_eq_false] at h
    exact h r hr (by simpa using e)
  have hr1 := hmem h2
  have hr2 := hmem h3
  have e1 := vOf_reads (rs := stepL x rs) (rs' := rs) hy (fun r hr => by
    rw [step_get hx hl, if_neg]
    have hi := reads_in hy r hr
    have := hr2 r hr
    unfold In6 at hi; omega)
  have e2 := vOf_reads (rs := stepL y rs) (rs' := rs) hx (fun r hr => by
    rw [step_get hy hl, if_neg]
    have hi := reads_in hx r hr
    have := hr1 r hr
    unfold In6 at hi; omega)
  have g1 : stepL y (stepL x rs) = (stepL x rs).set y.d.toNat (vOf y.op y.m (rs.getD y.a.toNat 0) (rs.getD y.b.toNat 0)) := by rw [← e1]; rfl
  have g2 : stepL x (stepL y rs) = (stepL y rs).set x.d.toNat (vOf x.op x.m (rs.getD x.a.toNat 0) (rs.getD x.b.toNat 0)) := by rw [← e2]; rfl
  rw [g1, g2]
  unfold stepL
  exact List.set_comm _ _ (by omega)
theorem swap_split {es : List In} {k : Nat} (h : k + 1 < es.length) : es = es.take k ++ es[k] :: es[k + 1] :: es.drop (k + 2) := by
  rw [← List.drop_eq_getElem_cons (by omega), ← List.drop_eq_getElem_cons (by omega), List.take_append_drop]
theorem swap_list {es : List In} {k : Nat} (h : k + 1 < es.length) : (es.set k es[k + 1]).set (k + 1) es[k] = es.take k ++ es[k + 1] :: es[k] :: es.drop (k + 2) := by
  apply List.ext_getElem
  · simp; omega
  · intro i h1 h2
    simp only [List.getElem_set, List.getElem_append, List.length_take, List.getElem_take, List.getElem_cons, List.getElem_drop]
    repeat' split
    all_goals first | rfl | omega | skip
    all_goals congr 1; omega
theorem swap_run {es : List In} {k : Nat} (h : k + 1 < es.length) (hg : ∀ x ∈ es, goodIn x = true) (hf : freeB es[k] es[k + 1] = true) {rs : List Int} (hl : rs.length = 6) : runL ((es.set k es[k + 1]).set (k + 1) es[k]) rs = runL es rs := by
  rw [swap_list h]
  conv => rhs; rw [swap_split h]
  rw [runL_app, runL_app, runL_cons, runL_cons, runL_cons, runL_cons]
  congr 1
  exact (step_swap (hg _ (List.getElem_mem _)) (hg _ (List.getElem_mem _)) hf (by rw [runL_len]; exact hl)).symm
theorem freeB_comm (x y : In) : freeB x y = freeB y x := by
  rw [free_touch, free_touch, Bool.and_comm]
theorem getD_in9 {es : List In} {k : Nat} (h : k < es.length) : es.getD k zeroIn = es[k] := by rw [List.getD_eq_getElem?_getD, List.getElem?_eq_getElem h]; rfl
theorem swOk_parts9 {es : List In} {i : Int} (h : swOk es i = true) : ∃ k : Nat, i = k ∧ ∃ hk : k + 1 < es.length, okCode es = true ∧ freeB es[k] es[k + 1] = true ∧ swapR es i = (es.set k es[k + 1]).set (k + 1) es[k] := by
  have h0 := h
  simp only [swOk, Bool.and_eq_true] at h0
  obtain ⟨⟨h1, h2⟩, h3⟩ := h0
  obtain ⟨k, rfl, hk⟩ := inR_nat h2
  rw [Int.toNat_natCast, getD_in9 (by omega), getD_in9 hk] at h3
  refine ⟨k, rfl, hk, h1, h3, ?_⟩
  unfold swapR
  rw [if_pos h, Int.toNat_natCast, getD_in9 (k := k) (by omega), getD_in9 (k := k + 1) hk]
theorem swapR_ok {es : List In} {i : Int} (h : swOk es i = true) : okCode (swapR es i) = true ∧ (swapR es i).length = es.length := by
  obtain ⟨k, rfl, hk, h1, h2, e⟩ := swOk_parts9 h
  rw [e]
  refine ⟨?_, by simp⟩
  have hl := okCode_len h1
  have ha := okCode_all h1
  unfold okCode
  rw [Bool.and_eq_true, List.all_eq_true]
  refine ⟨decide_eq_true (by simpa using hl), fun x hx => ?_⟩
  rcases List.mem_or_eq_of_mem_set hx with hx | rfl
  · rcases List.mem_or_eq_of_mem_set hx with hx | rfl
    · exact ha _ hx
    · exact ha _ (List.getElem_mem _)
  · exact ha _ (List.getElem_mem _)
theorem swap_swap {es : List In} {i : Int} (h : swOk es i = true) : swOk (swapR es i) i = true ∧ swapR (swapR es i) i = es := by
  obtain ⟨hok, hln⟩ := swapR_ok h
  obtain ⟨k, rfl, hk, h1, h2, e⟩ := swOk_parts9 h
  have a1 : (swapR es k).getD k zeroIn = es[k + 1] := by rw [e, List.getD_eq_getElem?_getD, List.getElem?_set_ne (by omega), List.getElem?_set_self (by omega)]; rfl
  have a2 : (swapR es k).getD (k + 1) zeroIn = es[k] := by rw [e, List.getD_eq_getElem?_getD, List.getElem?_set_self (by simp; exact hk)]; rfl
  have g : swOk (swapR es k) k = true := by
    unfold swOk
    rw [hok, Int.toNat_natCast, a1, a2, freeB_comm, h2, (inR_iff _ _ _).2 (by rw [hln]; omega)]; rfl
  refine ⟨g, ?_⟩
  rw [show swapR (swapR es k) k = if swOk (swapR es k) k = true then ((swapR es k).set (k : Int).toNat ((swapR es k).getD ((k : Int).toNat + 1) zeroIn)).set ((k : Int).toNat + 1) ((swapR es k).getD (k : Int).toNat zeroIn) else [] from rfl, if_pos g, Int.toNat_natCast, a1, a2, e]
  apply List.ext_getElem
  · simp
  · intro i h1 h2
    simp only [List.getElem_set]
    repeat' split
    all_goals first | rfl | (subst_vars; rfl) | omega

/- Renamed registers. -/
def relN (ns rs rs' : List Int) : Prop := rs'.length = 6 ∧ ∀ r, r < 6 → rs'.getD (ns.getD r 0).toNat 0 = rs.getD r 0
theorem names_parts {ns : List Int} (h : namesOk ns = true) : ns.length = 6 ∧ (∀ r, r < 6 → 0 ≤ ns.getD r 0 ∧ ns.getD r 0 ≤ 5) ∧ ∀ r q, r < 6 → q < 6 → ns.getD r 0 = ns.getD q 0 → r = q := by
  have hl := names6 h
  unfold namesOk onceB at h
  rw [Bool.and_eq_true, Bool.and_eq_true] at h
  obtain ⟨⟨_, h2⟩, h3⟩ := h
  have h3 := of_decide_eq_true h3
  have gd : ∀ r (hr : r < ns.length), ns.getD r 0 = ns[r] := fun r hr => by rw [List.getD_eq_getElem?_getD, List.getElem?_eq_getElem hr]; rfl
  refine ⟨hl, fun r hr => ?_, fun r q hr hq e => ?_⟩
  · rw [gd r (by omega)]
    unfold allIn at h2
    rw [List.all_eq_true] at h2
    exact (inR_iff _ _ _).1 (h2 _ (List.getElem_mem _))
  · rw [gd r (by omega), gd q (by omega)] at e
    have hp := List.pairwise_iff_getElem.1 h3
    rcases Nat.lt_trichotomy r q with h | h | h
    · exact absurd e (hp r q (by omega) (by omega) h)
    · exact h
    · exact absurd e.symm (hp q r (by omega) (by omega) h)
theorem ren_step {ns : List Int} (hn : namesOk ns = true) {x : In} (hx : goodIn x = true) {rs rs' : List Int} (hl : rs.length = 6) (h : relN ns rs rs') : relN ns (stepL x rs) (stepL (ren ns x) rs') := by
  obtain ⟨hl', hr⟩ := h
  obtain ⟨n6, nb, ni⟩ := names_parts hn
  obtain ⟨hd, ha, hb, hok, _⟩ := good_parts hx
  have hv : vOf x.op x.m (rs'.getD (ren ns x).a.toNat 0) (rs'.getD (ren ns x).b.toNat 0) = vOf x.op x.m (rs.getD x.a.toNat 0) (rs.getD x.b.toNat 0) := by
    have e1 : vOf x.op x.m (rs'.getD (ren ns x).a.toNat 0) (rs'.getD (ren ns x).b.toNat 0) = vOf x.op x.m (rs.getD x.a.toNat 0) (rs'.getD (ren ns x).b.toNat 0) := by
      cases h1 : (fm x.op).a
      · exact vOf_a hok h1 _ _ _ _
      · have : (ren ns x).a = ns.getD x.a.toNat 0 := by unfold ren; simp only; rw [if_pos h1]
        rw [this, hr _ (by omega)]
    rw [e1]
    cases h1 : (fm x.op).b
    · exact vOf_b hok h1 _ _ _ _
    · have : (ren ns x).b = ns.getD x.b.toNat 0 := by unfold ren; simp only; rw [if_pos h1]
      rw [this, hr _ (by omega)]
  have hdb := nb x.d.toNat (by omega)
  refine ⟨by rw [stepL_len, hl'], fun r hr6 => ?_⟩
  have hnb := nb r hr6
  have s1 : stepL (ren ns x) rs' = rs'.set (ns.getD x.d.toNat 0).toNat (vOf x.op x.m (rs.getD x.a.toNat 0) (rs.getD x.b.toNat 0)) := by rw [← hv]; rfl
  rw [s1, step_get hx hl, getD_set9 _ (by omega)]
  by_cases e : x.d.toNat = r
  · rw [if_pos e, if_pos (by rw [e])]
  · rw [if_neg e, if_neg, hr r hr6]
    intro e2
    exact e (ni _ _ (by omega) hr6 (by omega))
theorem ren_run {ns : List Int} (hn : namesOk ns = true) : ∀ {es : List In}, (∀ x ∈ es, goodIn x = true) → ∀ {rs rs' : List Int}, rs.length = 6 → relN ns rs rs' → relN ns (runL es rs) (runL (es.map (ren ns)) rs')
  | [], _, rs, rs', _, h => h
  | x :: l, hg, rs, rs', hl, h => by
    rw [List.map_cons, runL_cons, runL_cons]
    exact ren_run hn (fun y hy => hg y (by simp [hy])) (by rw [stepL_len]; exact hl) (ren_step hn (hg x (by simp)) hl h)
theorem ren_cost (ns : List Int) (es : List In) : sumC (es.map (ren ns)) = sumC es := by
  induction es with
  | nil => rfl
  | cons x l ih => rw [List.map_cons, sumC_cons, sumC_cons, ih]; rfl
/-- The words under their names. -/
def mvN (ns rs : List Int) (k : Nat) : List Int := (List.range k).foldl (fun m r => m.set (ns.getD r 0).toNat (rs.getD r 0)) (List.replicate 6 0)
theorem mvN_succ (ns rs : List Int) (k : Nat) : mvN ns rs (k + 1) = (mvN ns rs k).set (ns.getD k 0).toNat (rs.getD k 0) := by unfold mvN; rw [List.range_succ, List.foldl_append]; rfl
theorem mvN_len (ns rs : List Int) : ∀ k, (mvN ns rs k).length = 6
  | 0 => by simp [mvN]
  | k + 1 => by rw [mvN_succ, List.length_set, mvN_len ns rs k]
theorem mvN_get {ns : List Int} (hn : namesOk ns = true) (rs : List Int) : ∀ k, k ≤ 6 → ∀ r, r < k → (mvN ns rs k).getD (ns.getD r 0).toNat 0 = rs.getD r 0
  | 0, _, r, hr => by omega
  | k + 1, hk, r, hr => by
    obtain ⟨n6, nb, ni⟩ := names_parts hn
    have h1 := nb k (by omega)
    have h2 := nb r (by omega)
    rw [mvN_succ, getD_set9 _ (by rw [mvN_len]; omega)]
    by_cases e : k = r
    · subst e; rw [if_pos rfl]
    · rw [if_neg fun e2 => e (ni _ _ (by omega) (by omega) (by omega))]
      exact mvN_get hn rs k (by omega) r (by omega)
theorem mvN_rel {ns : List Int} (hn : namesOk ns = true) (rs : List Int) : relN ns rs (mvN ns rs 6) := ⟨mvN_len _ _ _, fun r hr => mvN_get hn rs 6 (by omega) r hr⟩

/- Dead code. -/
def agr (bs : List Bool) (rs rs' : List Int) : Prop := ∀ i, i < 6 → bs.getD i false = true → rs.getD i 0 = rs'.getD i 0
theorem bkB_get {bs : List Bool} (hb : bs.length = 6) {x : In} (hx : goodIn x = true) {i : Nat} (hi : i < 6) : (bkB bs x).getD i false = true ↔ (((i : Int) ∈ readsL x) ∨ (x.d.toNat ≠ i ∧ bs.getD i false = true)) := by
  have hd := (good_parts hx).1
  have h := setsB_get (readsL x) (bs.set x.d.toNat false) (reads_in hx) (by rw [List.length_set]; exact hb) i hi
  have e : bkB bs x = setsB (bs.set x.d.toNat false) (readsL x) := by unfold bkB bkTo setsB; rw [List.take_length]
  rw [e, h, getDB_set _ _ _ (by omega)]
  by_cases e2 : x.d.toNat = i
  · rw [if_pos e2]; simp [e2]
  · rw [if_neg e2]; simp [e2, or_comm]
theorem agr_step {bs : List Bool} (hb : bs.length = 6) {x : In} (hx : goodIn x = true) {rs rs' : List Int} (hl : rs.length = 6) (hl' : rs'.length = 6) (h : agr (bkB bs x) rs rs') : agr bs (stepL x rs) (stepL x rs') := by
  intro i hi hbi
  rw [step_get hx hl, step_get hx hl']
  by_cases e : x.d.toNat = i
  · rw [if_pos e, if_pos e]
    refine vOf_reads hx fun r hr => ?_
    have h6 := reads_in hx r hr
    unfold In6 at h6
    obtain ⟨q, rfl⟩ := Int.eq_ofNat_of_zero_le h6.1
    rw [Int.toNat_natCast]
    exact h q (by omega) ((bkB_get hb hx (by omega)).2 (.inl hr))
  · rw [if_neg e, if_neg e]
    exact h i hi ((bkB_get hb hx hi).2 (.inr ⟨e, hbi⟩))
theorem agr_dead {bs : List Bool} {x : In} (hx : goodIn x = true) {rs rs' : List Int} (hl : rs.length = 6) (hd : bs.getD x.d.toNat false = false) (h : agr bs rs rs') : agr bs (stepL x rs) rs' := by
  intro i hi hbi
  rw [step_get hx hl, if_neg]
  · exact h i hi hbi
  · intro e; rw [e, hbi] at hd; cases hd
theorem ddS_cons (bs : List Bool) (x : In) (cs : List In) : ddS bs (x :: cs) = ddStep x (ddS bs cs) := rfl
theorem dd_run {bs : List Bool} (hb : bs.length = 6) : ∀ {cs : List In}, (∀ x ∈ cs, goodIn x = true) → ∀ {rs rs' : List Int}, rs.length = 6 → rs'.length = 6 → agr (ddS bs cs).2 rs rs' → agr bs (runL cs rs) (runL (ddS bs cs).1 rs')
  | [], _, rs, rs', _, _, h => h
  | x :: cs, hg, rs, rs', hl, hl', h => by
    have hx := hg x (by simp)
    have hg' : ∀ y ∈ cs, goodIn y = true := fun y hy => hg y (by simp [hy])
    have hl2 : (ddS bs cs).2.length = 6 := by rw [(ddS_len bs cs).2]; exact hb
    rw [ddS_cons] at h ⊢
    unfold ddStep at h ⊢
    rw [runL_cons]
    cases hk : (ddS bs cs).2.getD x.d.toNat false
    · rw [hk] at h
      simp only [Bool.false_eq_true, if_false] at h ⊢
      exact dd_run hb hg' (by rw [stepL_len]; exact hl) hl' (agr_dead hx hl hk h)
    · rw [hk] at h
      simp only [if_true] at h ⊢
      rw [runL_cons]
      exact dd_run hb hg' (by rw [stepL_len]; exact hl) (by rw [stepL_len]; exact hl') (agr_step hl2 hx hl hl' h)
theorem dd_sub {bs : List Bool} (hb : bs.length = 6) : ∀ {cs : List In}, (∀ x ∈ cs, goodIn x = true) → ∀ i, i < 6 → (ddS bs cs).2.getD i false = true → (lvS bs cs).getD i false = true
  | [], _, i, hi, h => h
  | x :: cs, hg, i, hi, h => by
    have hx := hg x (by simp)
    have ih := dd_sub hb (cs := cs) fun y hy => hg y (by simp [hy])
    have hl2 : (ddS bs cs).2.length = 6 := by rw [(ddS_len bs cs).2]; exact hb
    have hl3 : (lvS bs cs).length = 6 := by rw [lvS_len]; exact hb
    show (bkB (lvS bs cs) x).getD i false = true
    rw [bkB_get hl3 hx hi]
    rw [ddS_cons] at h
    unfold ddStep at h
    cases hk : (ddS bs cs).2.getD x.d.toNat false
    · rw [hk] at h
      simp only [Bool.false_eq_true, if_false] at h
      refine .inr ⟨fun e => ?_, ih i hi h⟩
      rw [e, h] at hk; cases hk
    · rw [hk] at h
      simp only [if_true] at h
      rcases (bkB_get hl2 hx hi).1 h with h1 | ⟨h1, h2⟩
      · exact .inl h1
      · exact .inr ⟨h1, ih i hi h2⟩
theorem dd_idem (bs : List Bool) : ∀ cs : List In, ddS bs (ddS bs cs).1 = ddS bs cs
  | [] => rfl
  | x :: cs => by
    have ih := dd_idem bs cs
    rw [ddS_cons]
    unfold ddStep
    cases hk : (ddS bs cs).2.getD x.d.toNat false
    · simp only [Bool.false_eq_true, if_false]; exact ih
    · simp only [if_true]
      rw [ddS_cons, ih]
      unfold ddStep
      rw [hk]; rfl
end Go.Proofs.Ytmhdijklindipaa

namespace Go.Proofs.Ytmhdijklindipaa
open Go.RowKit
set_option linter.unusedVariables false
set_option maxRecDepth 100000

theorem IS.six' {w : World} {L B b o : Nat} {rs : List Int} (h : IS w L B (some ⟨b, o, none⟩) rs) (h6 : rs.length = 6) : b < B ∧ Six w b o rs := by
  obtain ⟨b', o', e, hb, hs⟩ := h.six h6
  injection e with e; injection e with e1 e2 _; subst e1; subst e2; exact ⟨hb.2, hs⟩
theorem renR_no1 {es : List In} (ns : List Int) (h : okCode es = false) : renR es ns = [] := by simp [renR, h]
theorem renR_no2 (es : List In) {ns : List Int} (h : namesOk ns = false) : renR es ns = [] := by simp [renR, h]
set_option maxHeartbeats 4000000 in
theorem iRenameCode_any (L B : Nat) (A : Option Addr) (c : Nat) (es : List In) (L' B' : Nat) (A' : Option Addr) (c' : Nat) (ns : List Int) (w : World) (hl : es.length ≤ 1048576) (hes : RS In.enc 5 w L B A es) (hB : B ≤ w.heap.size) (hl' : ns.length ≤ 1048576) (hI : IS w L' B' A' ns) (hB' : B' ≤ w.heap.size) :
    Calls Try.prog 52 #[.slice A es.length c, .slice A' ns.length c'] w (ResRenameCode (renR es ns) (okCode es && namesOk ns) w) := by
  have H := Lib.hid (IsCode_any L B A c es w hl hes hB)
  have hE := Lib.hid hes
  have hE' := Lib.hid hI
  have hBB := Lib.hid hB
  have hBB' := Lib.hid hB'
  clear hes hI hB hB'
  go_enter Try.func52, Try.ntmps52
  go_wp2_with (fail)
  refine H.out.mono ?_
  rintro e w2 ⟨rfl, hb⟩
  have hbb := Lib.hid hb
  have hz := hb.size
  have hE2' := Lib.hid (hE'.out.below hb hBB'.out)
  have hE2 := Lib.hid (hE.out.below hb hBB.out)
  clear hb
  cases hg : okCode es
  · have hR := Lib.hid (renR_no1 ns hg)
    have hK : Hid ((okCode es && namesOk ns) = false) := by simp [Hid, hg]
    go_wp2
    go_ret2
    rw [hR.out, hK.out]; exact ⟨none, 0, rfl, OK.nil _ _ _ _, hbb.out⟩
  · have hG := Lib.hid hg
    have hC := Lib.hid (areNames_any L' B' A' c' ns w2 hl' hE2'.out (by have := hBB'.out; omega))
    cases hr : namesOk ns
    · have hR := Lib.hid (renR_no2 es hr)
      have hK : Hid ((okCode es && namesOk ns) = false) := by simp [Hid, hr]
      rw [hr] at hC
      go_wp2_with (fail)
      refine hC.out.mono ?_
      rintro e w3 ⟨rfl, hb3⟩
      have hbb3 := Lib.hid (hbb.out.trans (hb3.mono hbb.out.size))
      clear hb3
      go_wp2
      go_ret2
      rw [hR.out, hK.out]; exact ⟨none, 0, rfl, OK.nil _ _ _ _, hbb3.out⟩
    · have hR : Hid (renR es ns = es.map (ren ns)) := by simp [Hid, renR, hr, hg]
      have hK : Hid ((okCode es && namesOk ns) = true) := by simp [Hid, hr, hg]
      have h6 := names6 hr
      have hall := Lib.hid (okCode_all hg)
      rw [hr] at hC
      obtain ⟨b', o', rfl, _, _⟩ := hE2'.out.six h6
      have hlm : Hid ((es.map (ren ns)).length = es.length) := by simp [Hid]
      rw [h6] at hC
      clear hr hg
      go_wp2_with (fail)
      refine hC.out.mono ?_
      rintro e w3 ⟨rfl, hb3⟩
      have hbb3 := Lib.hid (hbb.out.trans (hb3.mono hbb.out.size))
      have hz3 := hb3.size
      have hE3' := Lib.hid (hE2'.out.below hb3 (by have := hBB'.out; omega))
      have hE3 := Lib.hid (hE2.out.below hb3 (by have := hBB.out; omega))
      clear hb3
      have hmk := run_make_Instr es.length hl
      have hU0 : Hid (CB 56 (w3.alloc (.cells ((List.replicate es.length zeroIn).flatMap In.enc).toArray 56)) w3.heap.size ((over (es.map (ren ns)) (List.replicate es.length zeroIn) 0).flatMap In.enc ++ [])) := by
        rw [over_zero, List.append_nil]; exact heap_alloc_new w3 _
      have hBel0 := Lib.hid ((Below.refl w3.heap.size w3).alloc (Nat.le_refl _) (.cells ((List.replicate es.length zeroIn).flatMap In.enc).toArray 56))
      have h6' := Lib.hid h6
      clear h6
      go_wp2
      go_loopw [22] (fun i wr => ∃ k : Nat, k ≤ es.length ∧ i = .int .i64 k ∧ CB 56 wr w3.heap.size ((over (es.map (ren ns)) (List.replicate es.length zeroIn) k).flatMap In.enc ++ []) ∧ Below w3.heap.size w3 wr) (fun i _ => es.length - (intOf i).toNat)
      case atStart => exact ⟨0, Nat.zero_le _, rfl, hU0.out, hBel0.out⟩
      case round =>
        obtain ⟨k, hk, rfl, hib, hbel⟩ := hrel
        have hIB := Lib.hid hib
        have hglt := hib.lt
        have hbelH := Lib.hid hbel
        clear hib hmk hBel0 hU0
        by_cases hlt : k < es.length
        · obtain ⟨b, o, rfl, ⟨_, hbB⟩, hc⟩ := In.cells (hE3.out.below hbel (by have := hBB.out; omega)) (by omega)
          obtain ⟨c1, c2, c3, c4, c5⟩ := hc k hlt
          clear hc
          have hov : Hid ((over (es.map (ren ns)) (List.replicate es.length zeroIn) k).set k (ren ns es[k]) = over (es.map (ren ns)) (List.replicate es.length zeroIn) (k + 1)) := by
            have := over_succ (ys := es.map (ren ns)) (xs := List.replicate es.length zeroIn) (i := k) (by simpa using hlt) (by simp)
            rwa [List.getElem_map] at this
          have hol : Hid ((over (es.map (ren ns)) (List.replicate es.length zeroIn) k).length = es.length) := by rw [Hid, over_len (by simp; omega) (by simp)]; simp
          have hgood := Lib.hid (hall.out _ (List.getElem_mem hlt))
          have hbelx := fun o1 => Lib.hid (hbelH.out.alloc hbelH.out.size o1)
          generalize hnd : es[k] = nd at *
          obtain ⟨op, d, a, bb, m⟩ := nd
          have hIBx := fun o1 => Lib.hid (hIB.out.below ((Below.refl wr.heap.size wr).alloc (Nat.le_refl _) o1) hglt)
          have hE4 := fun o1 => Lib.hid ((hE3'.out.below (hbelx o1).out (by have := hBB'.out; omega)).six' h6'.out)
          have hb'lt := Lib.hid (((hE3'.out.six' h6'.out).1))
          have hzr := hbelH.out.size
          clear hnd hbel
          simp only at c1 c2 c3 c4 c5
          go_wp2_with (fail)
          refine (renameInstr_any ⟨op, d, a, bb, m⟩ b' o' c' ns _ hgood.out (by have := hb'lt.out; have := hBB'.out; simp; omega) (hE4 _).out.2).mono ?_
          rintro e w4 ⟨rfl, hb4⟩
          have hIB2 : Hid (CB 56 w4 w3.heap.size ((over (es.map (ren ns)) (List.replicate es.length zeroIn) k).flatMap In.enc ++ [])) := (hIBx _).out.below hb4 (by simp; omega)
          have hbel2 : Hid (Below w3.heap.size w3 w4) := (hbelx _).out.trans (hb4.mono (by simp; omega))
          generalize ren ns ⟨op, d, a, bb, m⟩ = y at *
          obtain ⟨y0, y1, y2, y3, y4⟩ := y
          clear c1 c2 c3 c4 c5 hb4 hIBx hbelx hE4
          obtain ⟨z0, z1, z2, z3, z4, d1, d2, d3, d4, d5⟩ := In.cellsB hIB2.out k (by rw [hol.out]; exact hlt)
          have f1 := hIB2.out.frozen (k * 5)
          have f2 := hIB2.out.frozen (k * 5 + 1)
          have f3 := hIB2.out.frozen (k * 5 + 2)
          have f4 := hIB2.out.frozen (k * 5 + 3)
          have f5 := hIB2.out.frozen (k * 5 + 4)
          have hst : Hid (CB 56 (setCells w4 w3.heap.size (k * 5) (In.enc ⟨y0, y1, y2, y3, y4⟩)) w3.heap.size ((over (es.map (ren ns)) (List.replicate es.length zeroIn) (k + 1)).flatMap In.enc ++ [])) := by
            have h1 := hIB2.out.store In.hk k (by rw [hol.out]; exact hlt) ⟨y0, y1, y2, y3, y4⟩
            rw [hov.out] at h1; exact h1
          have hbs := Lib.hid (below_setCells (In.enc ⟨y0, y1, y2, y3, y4⟩) w3.heap.size (k * 5) hbel2.out (Nat.le_refl _))
          simp only
          go_wp2
          go_roundw
          case rel => exact ⟨k + 1, by omega, by go_num, hst.out, hbs.out⟩
          case measure => simp [intOf]; omega
        · obtain rfl : k = es.length := by omega
          go_wp2
          go_ret2
          rw [hR.out, hK.out]
          have h1 := hIB.out
          rw [show es.length = (es.map (ren ns)).length by simp, over_all (by simp)] at h1
          have h2 := (cb_nil h1).toOK (lo := w.heap.size) (hi := wr.heap.size) In.hk (by rw [hlm.out]; unfold maxLen; omega) (by omega) hglt
          rw [hlm.out] at h2
          exact ⟨some ⟨w3.heap.size, 0, none⟩, es.length, by rw [hlm.out]; rfl, by rw [hlm.out]; exact h2, hbb3.out.trans (hbelH.out.mono hbb3.out.size)⟩
end Go.Proofs.Ytmhdijklindipaa

namespace Go.Proofs.Ytmhdijklindipaa
open Go.RowKit
set_option linter.unusedVariables false
set_option maxRecDepth 100000

theorem five_one' (y : In) : ∀ u ∈ In.enc y, u.oneCell' = true := by intro u hu; simp [In.enc] at hu; rcases hu with rfl | rfl | rfl | rfl | rfl <;> rfl
theorem five_new {w : World} {g : Nat} (y : In) (hg : w.heap.size = g) {t : TypeId} : ∀ j u, (In.enc y)[j]? = some u → (w.alloc (.cells #[.string y.op, .int .i64 y.d, .int .i64 y.a, .int .i64 y.b, .int .i64 y.m] t)).cell? ((⟨g, 0, none⟩ : Addr).add j) = some u := by
  subst hg
  intro j u hu
  rw [addr_add]
  have : CB t (w.alloc (.cells #[.string y.op, .int .i64 y.d, .int .i64 y.a, .int .i64 y.b, .int .i64 y.m] t)) w.heap.size (In.enc y) := heap_alloc_new w _
  rw [this.cell]; exact hu
theorem five_newd {w : World} {g : Nat} (y : In) (hg : w.heap.size = g) {t : TypeId} : ∀ j u, (In.enc y)[j]? = some u → (w.alloc (.cells #[.string y.op, .int .i64 y.d, .int .i64 y.a, .int .i64 y.b, .int .i64 y.m] t)).drew.cell? ((⟨g, 0, none⟩ : Addr).add j) = some u := five_new y hg
theorem map_snoc (f : In → In) {es : List In} {k : Nat} (h : k < es.length) : (es.take (k + 1)).map f = (es.take k).map f ++ [f es[k]] := by
  rw [List.take_succ_eq_append_getElem h, List.map_append]; rfl
theorem flat_snoc (l : List In) (y : In) : (l ++ [y]).flatMap In.enc = l.flatMap In.enc ++ In.enc y := by simp
set_option maxHeartbeats 8000000 in
theorem sRenameCode_any (L B : Nat) (A : Option Addr) (c : Nat) (es : List In) (L' B' : Nat) (A' : Option Addr) (c' : Nat) (ns : List Int) (w : World) (hl : es.length ≤ 1048576) (hes : RS In.enc 5 w L B A es) (hB : B ≤ w.heap.size) (hl' : ns.length ≤ 1048576) (hI : IS w L' B' A' ns) (hB' : B' ≤ w.heap.size) (hcap : ns.length ≤ c') :
    Calls Try.prog 53 #[.slice A es.length c, .slice A' ns.length c'] w (ResRenameCode (renR es ns) (okCode es && namesOk ns) w) := by
  obtain ⟨i0, hi0, hi1, hi2, hi3⟩ := info_parts Try.infoInstr
  have hJ0 := Lib.hid hi0
  have hJ1 := Lib.hid hi1
  have hJ2 := Lib.hid hi2
  have hJ3 := Lib.hid hi3
  clear hi0 hi1 hi2 hi3
  have H := Lib.hid (cdCode_any L B A c es w hl hes hB)
  have hE := Lib.hid hes
  have hE' := Lib.hid hI
  have hBB := Lib.hid hB
  have hBB' := Lib.hid hB'
  have hCap := Lib.hid hcap
  clear hes hI hB hB' hcap
  go_enter Try.func53, Try.ntmps53
  go_wp2_with (fail)
  refine H.out.mono ?_
  rintro e w2 ⟨rfl, hb⟩
  have hbb := Lib.hid hb
  have hz := hb.size
  have hE2' := Lib.hid (hE'.out.below hb hBB'.out)
  have hE2 := Lib.hid (hE.out.below hb hBB.out)
  clear hb
  cases hg : okCode es
  · have hR := Lib.hid (renR_no1 ns hg)
    have hK : Hid ((okCode es && namesOk ns) = false) := by simp [Hid, hg]
    go_wp2
    go_ret2
    rw [hR.out, hK.out]; exact ⟨none, 0, rfl, OK.nil _ _ _ _, hbb.out⟩
  · have hG := Lib.hid hg
    have hC := Lib.hid (cdNames_any L' B' A' c' ns w2 hl' hE2'.out hCap.out)
    cases hr : namesOk ns
    · have hR := Lib.hid (renR_no2 es hr)
      have hK : Hid ((okCode es && namesOk ns) = false) := by simp [Hid, hr]
      rw [hr] at hC
      go_wp2_with (fail)
      refine hC.out.mono ?_
      rintro e w3 ⟨rfl, rfl⟩
      go_wp2
      go_ret2
      rw [hR.out, hK.out]; exact ⟨none, 0, rfl, OK.nil _ _ _ _, hbb.out⟩
    · have hR : Hid (renR es ns = es.map (ren ns)) := by simp [Hid, renR, hr, hg]
      have hK : Hid ((okCode es && namesOk ns) = true) := by simp [Hid, hr, hg]
      have h6 := names6 hr
      have hall := Lib.hid (okCode_all hg)
      have hlen := Lib.hid (okCode_len hg)
      rw [hr] at hC
      obtain ⟨b', o', rfl, _, _⟩ := hE2'.out.six h6
      rw [h6] at hC
      have h6' := Lib.hid h6
      have hS2 := Lib.hid (hE2'.out.six' h6)
      clear hr hg
      go_wp2_with (fail)
      refine hC.out.mono ?_
      rintro e w3 ⟨rfl, rfl⟩
      go_wp2
      go_loopw [6, 25] (fun v i wr => ∃ k : Nat, k ≤ es.length ∧ i = .int .i64 k ∧ OK In.enc 5 56 wr w2.heap.size wr.heap.size v ((es.take k).map (ren ns)) ∧ Below w2.heap.size w2 wr) (fun _ i _ => es.length - (intOf i).toNat)
      case atStart => exact ⟨0, Nat.zero_le _, rfl, OK.nil _ _ _ _, Below.refl _ _⟩
      case round =>
        obtain ⟨k, hk, rfl, ho, hbel⟩ := hrel
        rename_i u6
        have hO := Lib.hid ho
        have hbelH := Lib.hid hbel
        clear ho
        by_cases hlt : k < es.length
        · obtain ⟨b, o, rfl, ⟨_, hbB⟩, hc⟩ := In.cells (hE2.out.below hbel (by have := hBB.out; omega)) (by omega)
          obtain ⟨c1, c2, c3, c4, c5⟩ := hc k hlt
          clear hc
          have hsn := Lib.hid (map_snoc (ren ns) hlt)
          have hgood := Lib.hid (hall.out _ (List.getElem_mem hlt))
          generalize hnd : es[k] = nd at *
          obtain ⟨hd, ha, hb, hok, hm⟩ := good_parts hgood.out
          obtain ⟨op, d, a, bb, m⟩ := nd
          obtain ⟨nd, rfl⟩ := Int.eq_ofNat_of_zero_le hd.1
          obtain ⟨na, rfl⟩ := Int.eq_ofNat_of_zero_le ha.1
          obtain ⟨nb, rfl⟩ := Int.eq_ofNat_of_zero_le hb.1
          simp only at hd ha hb
          have hRR : Hid (ren ns ⟨op, nd, na, nb, m⟩ = ⟨op, ns.getD nd 0, if (fm op).a = true then ns.getD na 0 else 0, if (fm op).b = true then ns.getD nb 0 else 0, m⟩) := by simp [Hid, ren]
          generalize ren ns ⟨op, nd, na, nb, m⟩ = R at *
          have hzr := hbel.size
          have hbl : b' < wr.heap.size := by have := hS2.out.1; have := hBB'.out; omega
          have hs2 := hS2.out.2.below hbel (by have := hS2.out.1; have := hBB'.out; omega)
          have q1 := hs2 nd (by omega)
          have q2 := hs2 na (by omega)
          have q3 := hs2 nb (by omega)
          have i1 : (nd : Int) < 6 := by omega
          have i2 : (na : Int) < 6 := by omega
          have i3 : (nb : Int) < 6 := by omega
          generalize ns.getD nd 0 = vd at *
          generalize ns.getD na 0 = va at *
          generalize ns.getD nb 0 = vb at *
          have hF := Lib.hid (fun W => cdShape_any op W)
          generalize fm op = f at *
          obtain ⟨ok, fa, fb, lo, hi, cc⟩ := f
          simp only at hF hRR c1 c2 c3 c4 c5
          have hlk : ((es.take k).map (ren ns)).length = k := by simp; omega
          have hO3 := fun o1 o2 o3 => Lib.hid (show ((((wr.alloc o1).alloc o2).alloc o3).drew).ownsRow w2.heap.size 56 5 u6 k (((es.take k).map (ren ns)).flatMap In.enc) from by
            have h := (hO.out.below (((((Below.refl wr.heap.size wr).alloc (Nat.le_refl _) o1).alloc (by simp) o2).alloc (by simp; omega) o3).drew) (Nat.le_refl _)).1
            rw [hlk] at h; exact h)
          have hB3 := fun o1 o2 o3 => Lib.hid (show Below w2.heap.size w2 ((((wr.alloc o1).alloc o2).alloc o3).drew) from (((hbelH.out.alloc hzr o1).alloc (by simp; omega) o2).alloc (by simp; omega) o3).drew)
          have hk40 : k < 40 := by have := hlen.out; omega
          clear hnd hs2 hd ha hb hok hm hbel hlk
          go_wp2_with (fail)
          refine (hF.out _).mono ?_
          rintro e w' ⟨rfl, rfl⟩
          go_wp2_with (fail)
          go_region_held3 (fun w' => w'.cell? ⟨wr.heap.size, 0, none⟩ = some (.string op) ∧ w'.cell? ⟨wr.heap.size, 1, none⟩ = some (.int .i64 nd) ∧ w'.cell? ⟨wr.heap.size, 4, none⟩ = some (.int .i64 m) ∧ w'.cell? ⟨b', o' + nd, none⟩ = some (.int .i64 vd))
            (go_keep)
            (fail)
          all_goals
            cases fa <;> cases fb
            · go_wp2_with (at_builtin; refine wpList_append_own _ rfl _ _ 42 rfl w2.heap.size 56 i0 _ 5 48 Try.underlying42 hJ0.out hJ1.out hJ2.out hJ3.out rfl (by decide) _ k _ rfl (hO3 _ _ _).out ⟨wr.heap.size + 1 + 1, 0, none⟩ 1 1 (In.enc ⟨op, vd, 0, 0, m⟩) rfl rfl (five_newd ⟨op, vd, 0, 0, m⟩ (by simp)) (five_one' _) (by unfold maxLen; omega) (by omega) (by simp; omega) ?_; intro v' w1 hown1 hgr1 _)
              have hown1 := Lib.hid hown1
              have hbel1 := Lib.hid ((hB3 _ _ _).out.grown hgr1 (by simp; omega) (fun j hj => (hO.out.lo j hj).1))
              have hnew : Hid (OK In.enc 5 56 w1 w2.heap.size w1.heap.size v' ((es.take (k + 1)).map (ren ns))) := by
                have hl1 : ((es.take (k + 1)).map (ren ns)).length = k + 1 := by simp; omega
                refine ⟨?_, fun j hj => (hown1.out.lt j hj).2⟩
                rw [hl1, hsn.out, flat_snoc, hRR.out]; exact hown1.out
              clear hgr1
              go_wp2
              go_roundw
              case rel => exact ⟨k + 1, by omega, by go_num, hnew.out, hbel1.out⟩
              case measure => simp [intOf]; omega
            · go_wp2_with (at_builtin; refine wpList_append_own _ rfl _ _ 42 rfl w2.heap.size 56 i0 _ 5 48 Try.underlying42 hJ0.out hJ1.out hJ2.out hJ3.out rfl (by decide) _ k _ rfl (hO3 _ _ _).out ⟨wr.heap.size + 1 + 1, 0, none⟩ 1 1 (In.enc ⟨op, vd, 0, vb, m⟩) rfl rfl (five_newd ⟨op, vd, 0, vb, m⟩ (by simp)) (five_one' _) (by unfold maxLen; omega) (by omega) (by simp; omega) ?_; intro v' w1 hown1 hgr1 _)
              have hown1 := Lib.hid hown1
              have hbel1 := Lib.hid ((hB3 _ _ _).out.grown hgr1 (by simp; omega) (fun j hj => (hO.out.lo j hj).1))
              have hnew : Hid (OK In.enc 5 56 w1 w2.heap.size w1.heap.size v' ((es.take (k + 1)).map (ren ns))) := by
                have hl1 : ((es.take (k + 1)).map (ren ns)).length = k + 1 := by simp; omega
                refine ⟨?_, fun j hj => (hown1.out.lt j hj).2⟩
                rw [hl1, hsn.out, flat_snoc, hRR.out]; exact hown1.out
              clear hgr1
              go_wp2
              go_roundw
              case rel => exact ⟨k + 1, by omega, by go_num, hnew.out, hbel1.out⟩
              case measure => simp [intOf]; omega
            · go_wp2_with (at_builtin; refine wpList_append_own _ rfl _ _ 42 rfl w2.heap.size 56 i0 _ 5 48 Try.underlying42 hJ0.out hJ1.out hJ2.out hJ3.out rfl (by decide) _ k _ rfl (hO3 _ _ _).out ⟨wr.heap.size + 1 + 1, 0, none⟩ 1 1 (In.enc ⟨op, vd, va, 0, m⟩) rfl rfl (five_newd ⟨op, vd, va, 0, m⟩ (by simp)) (five_one' _) (by unfold maxLen; omega) (by omega) (by simp; omega) ?_; intro v' w1 hown1 hgr1 _)
              have hown1 := Lib.hid hown1
              have hbel1 := Lib.hid ((hB3 _ _ _).out.grown hgr1 (by simp; omega) (fun j hj => (hO.out.lo j hj).1))
              have hnew : Hid (OK In.enc 5 56 w1 w2.heap.size w1.heap.size v' ((es.take (k + 1)).map (ren ns))) := by
                have hl1 : ((es.take (k + 1)).map (ren ns)).length = k + 1 := by simp; omega
                refine ⟨?_, fun j hj => (hown1.out.lt j hj).2⟩
                rw [hl1, hsn.out, flat_snoc, hRR.out]; exact hown1.out
              clear hgr1
              go_wp2
              go_roundw
              case rel => exact ⟨k + 1, by omega, by go_num, hnew.out, hbel1.out⟩
              case measure => simp [intOf]; omega
            · go_wp2_with (at_builtin; refine wpList_append_own _ rfl _ _ 42 rfl w2.heap.size 56 i0 _ 5 48 Try.underlying42 hJ0.out hJ1.out hJ2.out hJ3.out rfl (by decide) _ k _ rfl (hO3 _ _ _).out ⟨wr.heap.size + 1 + 1, 0, none⟩ 1 1 (In.enc ⟨op, vd, va, vb, m⟩) rfl rfl (five_newd ⟨op, vd, va, vb, m⟩ (by simp)) (five_one' _) (by unfold maxLen; omega) (by omega) (by simp; omega) ?_; intro v' w1 hown1 hgr1 _)
              have hown1 := Lib.hid hown1
              have hbel1 := Lib.hid ((hB3 _ _ _).out.grown hgr1 (by simp; omega) (fun j hj => (hO.out.lo j hj).1))
              have hnew : Hid (OK In.enc 5 56 w1 w2.heap.size w1.heap.size v' ((es.take (k + 1)).map (ren ns))) := by
                have hl1 : ((es.take (k + 1)).map (ren ns)).length = k + 1 := by simp; omega
                refine ⟨?_, fun j hj => (hown1.out.lt j hj).2⟩
                rw [hl1, hsn.out, flat_snoc, hRR.out]; exact hown1.out
              clear hgr1
              go_wp2
              go_roundw
              case rel => exact ⟨k + 1, by omega, by go_num, hnew.out, hbel1.out⟩
              case measure => simp [intOf]; omega
        · obtain rfl : k = es.length := by omega
          go_wp2
          go_ret2
          rw [hR.out, hK.out]
          have h1 := hO.out
          rw [List.take_length] at h1
          obtain ⟨A1, c1, rfl, _⟩ := OK.form In.hk h1
          exact ⟨_, _, rfl, h1.lower hz, hbb.out.trans (hbelH.out.mono hz)⟩
end Go.Proofs.Ytmhdijklindipaa

/- FnRenamedAndSwapped: code under new names does the same; swapped neighbours do too. -/
namespace Go.Proofs.Ytmhdijklindipaa
open Go.RowKit
set_option linter.unusedVariables false
set_option maxRecDepth 100000

theorem regs_of {rs : List Int} (h : rs.length = 6) (hb : ∀ x ∈ rs, 0 ≤ x ∧ x ≤ 63) : regsOk rs = true := by
  unfold regsOk
  rw [h, Bool.and_eq_true]
  refine ⟨rfl, ?_⟩
  unfold allIn
  rw [List.all_eq_true]
  intro x hx
  have := hb x hx
  unfold inR
  rw [Bool.and_eq_true]
  exact ⟨decide_eq_true this.1, decide_eq_true this.2⟩
theorem set_bd {rs : List Int} {k : Nat} {v : Int} (hb : ∀ x ∈ rs, 0 ≤ x ∧ x ≤ 63) (hv : 0 ≤ v ∧ v ≤ 63) : ∀ x ∈ rs.set k v, 0 ≤ x ∧ x ≤ 63 := fun x hx => by
  rcases List.mem_or_eq_of_mem_set hx with h | rfl
  · exact hb x h
  · exact hv
theorem indR_comm (x y : In) : indR y x = indR x y := by
  unfold indR
  rw [freeB_comm y x, Bool.and_comm (goodIn y)]
theorem run_yes {es : List In} {rs : List Int} (h1 : okCode es = true) (h2 : regsOk rs = true) : (okCode es && regsOk rs) = true ∧ runR es rs = runL es rs := by
  have h : (okCode es && regsOk rs) = true := by rw [h1, h2]; rfl
  exact ⟨h, by unfold runR; rw [if_pos h]⟩
theorem swap_facts {es : List In} {i : Int} {rs : List Int} (h : swOk es i = true) (hr : rs.length = 6) : okCode es = true ∧ okCode (swapR es i) = true ∧ runL (swapR es i) rs = runL es rs ∧ swOk (swapR es i) i = true ∧ swapR (swapR es i) i = es ∧ (swapR es i).length ≤ 40 := by
  obtain ⟨k, rfl, hk, h1, h2, h3⟩ := swOk_parts9 h
  have h4 := swapR_ok h
  have h5 := swap_swap h
  refine ⟨h1, h4.1, by rw [h3]; exact swap_run hk (okCode_all h1) h2 hr, h5.1, h5.2, okCode_len h4.1⟩
theorem ren_good {ns : List Int} (hn : namesOk ns = true) {x : In} (hx : goodIn x = true) : goodIn (ren ns x) = true := by
  obtain ⟨n6, nb, _⟩ := names_parts hn
  have hp := good_parts hx
  simp only [goodIn, opnd, reg, Bool.and_eq_true, Bool.or_eq_true, inR_iff, beq_iff_eq] at hx ⊢
  obtain ⟨⟨⟨⟨h1, h2⟩, h3⟩, h4⟩, h5⟩ := hx
  have d := nb x.d.toNat (by omega)
  have ua := nb x.a.toNat (by omega)
  have ub := nb x.b.toNat (by omega)
  unfold ren
  simp only
  refine ⟨⟨⟨⟨h1, d⟩, ?_⟩, ?_⟩, h5⟩
  · cases hf : (fm x.op).a <;> simp_all
  · cases hf : (fm x.op).b <;> simp_all
theorem ren_code {ns : List Int} (hn : namesOk ns = true) {es : List In} (h : okCode es = true) : okCode (es.map (ren ns)) = true := by
  unfold okCode
  rw [Bool.and_eq_true]
  refine ⟨decide_eq_true (by rw [List.length_map]; exact okCode_len h), List.all_eq_true.2 fun x hx => ?_⟩
  rw [List.mem_map] at hx
  obtain ⟨y, hy, rfl⟩ := hx
  exact ren_good hn (okCode_all h y hy)
theorem mvN_bd (ns : List Int) {rs : List Int} (hb : ∀ x ∈ rs, 0 ≤ x ∧ x ≤ 63) : ∀ k, ∀ x ∈ mvN ns rs k, 0 ≤ x ∧ x ≤ 63
  | 0, x, hx => by
    have : x = 0 := by simpa [mvN] using hx
    omega
  | k + 1, x, hx => by
    rw [mvN_succ] at hx
    rcases List.mem_or_eq_of_mem_set hx with h | rfl
    · exact mvN_bd ns hb k x h
    · rw [List.getD_eq_getElem?_getD]
      rcases Nat.lt_or_ge k rs.length with h | h
      · rw [List.getElem?_eq_getElem h]; exact hb _ (List.getElem_mem h)
      · rw [List.getElem?_eq_none h]; simp
theorem ren_facts {es : List In} {ns rs : List Int} (h : (okCode es && namesOk ns) = true) (hr : rs.length = 6) (hb : ∀ x ∈ rs, 0 ≤ x ∧ x ≤ 63) :
    okCode es = true ∧ okCode (renR es ns) = true ∧ regsOk (mvN ns rs 6) = true ∧ (mvN ns rs 6).length = 6 ∧ sumR (renR es ns) = sumR es ∧ (runL (renR es ns) (mvN ns rs 6)).length = 6 ∧
    (∀ k, k < 6 → ∃ p : Nat, p < 6 ∧ ns.getD k 0 = p ∧ (runL (renR es ns) (mvN ns rs 6)).getD p 0 = (runL es rs).getD k 0) := by
  rw [Bool.and_eq_true] at h
  obtain ⟨h1, h2⟩ := h
  have e : renR es ns = es.map (ren ns) := by unfold renR; rw [if_pos (by rw [h1, h2]; rfl)]
  obtain ⟨n6, nb, _⟩ := names_parts h2
  have hl := mvN_len ns rs 6
  have hR := ren_run h2 (okCode_all h1) hr (mvN_rel h2 rs)
  rw [e]
  refine ⟨h1, ren_code h2 h1, regs_of hl (mvN_bd ns hb 6), hl, ?_, by rw [runL_len, hl], fun k hk => ?_⟩
  · unfold sumR; rw [if_pos h1, if_pos (ren_code h2 h1), ren_cost]
  · have := nb k hk
    refine ⟨(ns.getD k 0).toNat, by omega, by omega, hR.2 k hk⟩
theorem XB.upD {W W' : World} {g : Nat} {x : In} (h : XB W g x) (hb : Below W.heap.size W W') : XB W' g x := CB.below h hb (CB.lt h)

set_option maxHeartbeats 16000000 in
theorem fnRenamedAndSwapped_go (A A' : Option Addr) (c c' : Nat) (bs bs' : List Int) (w : World) (hbl : bs.length + bs'.length ≤ 1048576) (ha : ∀ x ∈ bs, 0 ≤ x ∧ x ≤ 255) (ha' : ∀ x ∈ bs', 0 ≤ x ∧ x ≤ 255) (hy : BY w w.heap.size A bs) (hy' : BY w w.heap.size A' bs') :
    Calls Try.prog 6 #[.slice A bs.length c, .slice A' bs'.length c'] w fun e w' => e = .returned (.bool true) ∧ Below w.heap.size w w' := by
  have hB := Lib.hid (Below.refl w.heap.size w)
  have hBY := Lib.hid fun (W : World) (hW : Below w.heap.size w W) => ((hy.keep fun j hj => hW.block j hj).more hW.size : BY W W.heap.size A bs)
  have hBY' := Lib.hid fun (W : World) (hW : Below w.heap.size w W) => ((hy'.keep fun j hj => hW.block j hj).more hW.size : BY W W.heap.size A' bs')
  have HBig := Lib.hid (big_no A A' bs.length bs'.length c c' w (by omega) (by omega) hbl)
  have hA := Lib.hid ha
  have hA' := Lib.hid ha'
  clear hy hy' ha ha'
  go_enter Try.func6, Try.ntmps6
  go_wp2_with (fail)
  refine HBig.out.mono ?_
  rintro e w0 ⟨rfl, rfl⟩
  clear HBig
  have H := Lib.hid (DrawRenameCode_d A c bs w (by omega) hA.out (hBY.out w hB.out))
  go_wp2_with (fail)
  refine (H.out).mono ?_
  rintro e w1 ⟨_, _, xa, ns, rfl, ⟨Aa, ca, rfl, na, ka, sa, ra⟩, ⟨An, cn, rfl, n6, kn, rn⟩, hbe⟩
  replace hB := Lib.hid (hB.out.trans (hbe.mono hB.out.size))
  have h_a := Lib.hid (ra.more (Nat.zero_le _) (Nat.le_refl _))
  have h_n := Lib.hid (rn.more (Nat.zero_le _) (Nat.le_refl _))
  clear hbe H
  clear ra rn sa ka
  have hN6 := Lib.hid n6
  have hKn := Lib.hid kn
  clear n6 kn
  have hJ : ∃ J, (okCode xa && namesOk ns) = J := ⟨_, rfl⟩
  obtain ⟨J, hJ⟩ := hJ
  replace hJ := Lib.hid hJ
  have hq9 := iRenameCode_any 0 w1.heap.size Aa ca xa 0 w1.heap.size An cn ns w1 (by omega) h_a.out (Nat.le_refl _) (by have := hN6.out; omega) h_n.out (Nat.le_refl _)
  rw [hJ.out] at hq9
  have H := Lib.hid hq9
  clear hq9
  go_wp2_with (fail)
  refine (H.out).mono ?_
  rintro e w2 ⟨Ao, co, rfl, oo, hbe⟩
  replace h_a := Lib.hid (h_a.out.upD hbe)
  replace h_n := Lib.hid (h_n.out.upD hbe)
  replace hB := Lib.hid (hB.out.trans (hbe.mono hB.out.size))
  have h_o := Lib.hid ((OK.rsD oo).more (Nat.zero_le _) (Nat.le_refl _))
  clear hbe H
  clear oo
  have hq9 := sRenameCode_any 0 w2.heap.size Aa ca xa 0 w2.heap.size An cn ns w2 (by omega) h_a.out (Nat.le_refl _) (by have := hN6.out; omega) h_n.out (Nat.le_refl _) hKn.out
  rw [hJ.out] at hq9
  have H := Lib.hid hq9
  clear hq9
  go_wp2_with (fail)
  refine (H.out).mono ?_
  rintro e w3 ⟨Aq, cq, rfl, oq, hbe⟩
  replace h_a := Lib.hid (h_a.out.upD hbe)
  replace h_n := Lib.hid (h_n.out.upD hbe)
  replace h_o := Lib.hid (h_o.out.upD hbe)
  replace hB := Lib.hid (hB.out.trans (hbe.mono hB.out.size))
  have h_q := Lib.hid ((OK.rsD oq).more (Nat.zero_le _) (Nat.le_refl _))
  clear hbe H
  clear oq
  have e1 : (J != J) = false := by simp
  have hrl := Lib.hid (renR_len xa ns)
  have H := Lib.hid (pSameCode_eq 0 w3.heap.size 0 w3.heap.size Ao Aq _ _ co cq (renR xa ns) w3 rfl rfl hrl.out h_o.out h_q.out)
  go_wp2_with (fail)
  refine (H.out).mono ?_
  rintro e w4 ⟨rfl, n, hn⟩
  have hbe := yes_below hn
  clear hn n
  replace h_a := Lib.hid (h_a.out.upD hbe)
  replace h_n := Lib.hid (h_n.out.upD hbe)
  replace h_o := Lib.hid (h_o.out.upD hbe)
  replace h_q := Lib.hid (h_q.out.upD hbe)
  replace hB := Lib.hid (hB.out.trans (hbe.mono hB.out.size))
  clear hbe H
  clear h_q
  have H := Lib.hid (DrawSwapNeighbours_d A' c' bs' w4 (by omega) hA'.out (hBY'.out _ hB.out))
  go_wp2_with (fail)
  refine (H.out).mono ?_
  rintro e w5 ⟨_, xs, i, rfl, ⟨As, cs, rfl, nn, ks, ss, rs⟩, hbe⟩
  replace h_a := Lib.hid (h_a.out.upD hbe)
  replace h_n := Lib.hid (h_n.out.upD hbe)
  replace h_o := Lib.hid (h_o.out.upD hbe)
  replace hB := Lib.hid (hB.out.trans (hbe.mono hB.out.size))
  have h_s := Lib.hid (rs.more (Nat.zero_le _) (Nat.le_refl _))
  clear hbe H
  clear rs ks ss
  have hT : ∃ T, swOk xs i = T := ⟨_, rfl⟩
  obtain ⟨T, hT⟩ := hT
  replace hT := Lib.hid hT
  have hq9 := iSwap_any 0 w5.heap.size As cs xs i w5 (by omega) h_s.out (Nat.le_refl _)
  rw [hT.out] at hq9
  have H := Lib.hid hq9
  clear hq9
  go_wp2_with (fail)
  refine (H.out).mono ?_
  rintro e w6 ⟨At, ct, rfl, ot, hbe⟩
  replace h_a := Lib.hid (h_a.out.upD hbe)
  replace h_n := Lib.hid (h_n.out.upD hbe)
  replace h_o := Lib.hid (h_o.out.upD hbe)
  replace h_s := Lib.hid (h_s.out.upD hbe)
  replace hB := Lib.hid (hB.out.trans (hbe.mono hB.out.size))
  have h_t := Lib.hid ((OK.rsD ot).more (Nat.zero_le _) (Nat.le_refl _))
  clear hbe H
  clear ot
  have hq9 := sSwap_any 0 w6.heap.size As cs xs i w6 (by omega) h_s.out (Nat.le_refl _)
  rw [hT.out] at hq9
  have H := Lib.hid hq9
  clear hq9
  go_wp2_with (fail)
  refine (H.out).mono ?_
  rintro e w7 ⟨Au, cu, rfl, ou, hbe⟩
  replace h_a := Lib.hid (h_a.out.upD hbe)
  replace h_n := Lib.hid (h_n.out.upD hbe)
  replace h_o := Lib.hid (h_o.out.upD hbe)
  replace h_s := Lib.hid (h_s.out.upD hbe)
  replace h_t := Lib.hid (h_t.out.upD hbe)
  replace hB := Lib.hid (hB.out.trans (hbe.mono hB.out.size))
  have h_u := Lib.hid ((OK.rsD ou).more (Nat.zero_le _) (Nat.le_refl _))
  clear hbe H
  clear ou
  have H := Lib.hid (DrawAreIndependent_d A' c' bs' w7 (by omega) hA'.out (hBY'.out _ hB.out))
  go_wp2_with (fail)
  refine (H.out).mono ?_
  rintro e w8 ⟨⟨op, d, a, b, m⟩, ⟨op', d', a', b', m'⟩, rfl, hs1, hs2, hbe⟩
  replace h_a := Lib.hid (h_a.out.upD hbe)
  replace h_n := Lib.hid (h_n.out.upD hbe)
  replace h_o := Lib.hid (h_o.out.upD hbe)
  replace h_s := Lib.hid (h_s.out.upD hbe)
  replace h_t := Lib.hid (h_t.out.upD hbe)
  replace h_u := Lib.hid (h_u.out.upD hbe)
  replace hB := Lib.hid (hB.out.trans (hbe.mono hB.out.size))
  clear hbe H
  clear hs1 hs2
  dsimp only
  have hbe : Below w8.heap.size w8 ((w8.alloc (.cells #[.string op, .int .i64 d, .int .i64 a, .int .i64 b, .int .i64 m] 56)).alloc (.cells #[.string op', .int .i64 d', .int .i64 a', .int .i64 b', .int .i64 m'] 56)) := ((Below.refl w8.heap.size w8).alloc (Nat.le_refl _) (.cells #[.string op, .int .i64 d, .int .i64 a, .int .i64 b, .int .i64 m] 56)).alloc (by simp) (.cells #[.string op', .int .i64 d', .int .i64 a', .int .i64 b', .int .i64 m'] 56)
  replace h_a := Lib.hid (h_a.out.upD hbe)
  replace h_n := Lib.hid (h_n.out.upD hbe)
  replace h_o := Lib.hid (h_o.out.upD hbe)
  replace h_s := Lib.hid (h_s.out.upD hbe)
  replace h_t := Lib.hid (h_t.out.upD hbe)
  replace h_u := Lib.hid (h_u.out.upD hbe)
  replace hB := Lib.hid (hB.out.trans (hbe.mono hB.out.size))
  have h_x := Lib.hid (show XB ((w8.alloc (.cells #[.string op, .int .i64 d, .int .i64 a, .int .i64 b, .int .i64 m] 56)).alloc (.cells #[.string op', .int .i64 d', .int .i64 a', .int .i64 b', .int .i64 m'] 56)) w8.heap.size ⟨op, d, a, b, m⟩ from CB.below (show XB (w8.alloc (.cells #[.string op, .int .i64 d, .int .i64 a, .int .i64 b, .int .i64 m] 56)) w8.heap.size ⟨op, d, a, b, m⟩ from heap_alloc_new w8 _) ((Below.refl _ _).alloc (Nat.le_refl _) (.cells #[.string op', .int .i64 d', .int .i64 a', .int .i64 b', .int .i64 m'] 56)) (by simp))
  have h_y : Hid (XB ((w8.alloc (.cells #[.string op, .int .i64 d, .int .i64 a, .int .i64 b, .int .i64 m] 56)).alloc (.cells #[.string op', .int .i64 d', .int .i64 a', .int .i64 b', .int .i64 m'] 56)) (w8.heap.size + 1) ⟨op', d', a', b', m'⟩) := by
    have h := heap_alloc_new (w8.alloc (.cells #[.string op, .int .i64 d, .int .i64 a, .int .i64 b, .int .i64 m] 56)) (.cells #[.string op', .int .i64 d', .int .i64 a', .int .i64 b', .int .i64 m'] 56)
    rw [World.size_alloc] at h
    exact h
  clear hbe
  obtain ⟨x0, x1, x2, x3, x4⟩ := XB.cells h_x.out
  simp only at x0 x1 x2 x3 x4
  obtain ⟨y0, y1, y2, y3, y4⟩ := XB.cells h_y.out
  simp only at y0 y1 y2 y3 y4
  go_wp2_with (fail)
  generalize ((w8.alloc (.cells #[.string op, .int .i64 d, .int .i64 a, .int .i64 b, .int .i64 m] 56)).alloc (.cells #[.string op', .int .i64 d', .int .i64 a', .int .i64 b', .int .i64 m'] 56)) = w9 at *
  clear x0 x1 x2 x3 x4
  clear y0 y1 y2 y3 y4
  have hI : ∃ I, (goodIn ⟨op, d, a, b, m⟩ && goodIn ⟨op', d', a', b', m'⟩) = I := ⟨_, rfl⟩
  obtain ⟨I, hI⟩ := hI
  replace hI := Lib.hid hI
  have hU : ∃ U, indR ⟨op, d, a, b, m⟩ ⟨op', d', a', b', m'⟩ = U := ⟨_, rfl⟩
  obtain ⟨U, hU⟩ := hU
  replace hU := Lib.hid hU
  have hq9 := iAreIndependent_any ⟨op, d, a, b, m⟩ ⟨op', d', a', b', m'⟩ w9
  rw [hI.out, hU.out] at hq9
  have H := Lib.hid hq9
  clear hq9
  refine (H.out).mono ?_
  rintro e w10 ⟨rfl, hbe⟩
  replace h_a := Lib.hid (h_a.out.upD hbe)
  replace h_n := Lib.hid (h_n.out.upD hbe)
  replace h_o := Lib.hid (h_o.out.upD hbe)
  replace h_s := Lib.hid (h_s.out.upD hbe)
  replace h_t := Lib.hid (h_t.out.upD hbe)
  replace h_u := Lib.hid (h_u.out.upD hbe)
  replace h_x := Lib.hid (h_x.out.upD hbe)
  replace h_y := Lib.hid (h_y.out.upD hbe)
  replace hB := Lib.hid (hB.out.trans (hbe.mono hB.out.size))
  clear hbe H
  obtain ⟨x0, x1, x2, x3, x4⟩ := XB.cells h_x.out
  simp only at x0 x1 x2 x3 x4
  obtain ⟨y0, y1, y2, y3, y4⟩ := XB.cells h_y.out
  simp only at y0 y1 y2 y3 y4
  have hq9 := sAreIndependent_any ⟨op, d, a, b, m⟩ ⟨op', d', a', b', m'⟩ w10
  rw [hI.out] at hq9
  rw [hU.out] at hq9
  have H := Lib.hid hq9
  clear hq9
  go_wp2_with (fail)
  clear x0 x1 x2 x3 x4
  clear y0 y1 y2 y3 y4
  refine (H.out).mono ?_
  rintro e w11 ⟨rfl, hbe⟩
  replace h_a := Lib.hid (h_a.out.upD hbe)
  replace h_n := Lib.hid (h_n.out.upD hbe)
  replace h_o := Lib.hid (h_o.out.upD hbe)
  replace h_s := Lib.hid (h_s.out.upD hbe)
  replace h_t := Lib.hid (h_t.out.upD hbe)
  replace h_u := Lib.hid (h_u.out.upD hbe)
  replace h_x := Lib.hid (h_x.out.upD hbe)
  replace h_y := Lib.hid (h_y.out.upD hbe)
  replace hB := Lib.hid (hB.out.trans (hbe.mono hB.out.size))
  clear hbe H
  have e2 : (T != T) = false := by simp
  have e3 : (I != I) = false := by simp
  have e4 : (U != U) = false := by simp
  have hsl := Lib.hid (swapR_len xs i)
  have H := Lib.hid (pSameCode_eq 0 w11.heap.size 0 w11.heap.size At Au _ _ ct cu (swapR xs i) w11 rfl rfl hsl.out h_t.out h_u.out)
  go_wp2_with (fail)
  refine (H.out).mono ?_
  rintro e w12 ⟨rfl, n, hn⟩
  have hbe := yes_below hn
  clear hn n
  replace h_a := Lib.hid (h_a.out.upD hbe)
  replace h_n := Lib.hid (h_n.out.upD hbe)
  replace h_o := Lib.hid (h_o.out.upD hbe)
  replace h_s := Lib.hid (h_s.out.upD hbe)
  replace h_t := Lib.hid (h_t.out.upD hbe)
  replace h_u := Lib.hid (h_u.out.upD hbe)
  replace h_x := Lib.hid (h_x.out.upD hbe)
  replace h_y := Lib.hid (h_y.out.upD hbe)
  replace hB := Lib.hid (hB.out.trans (hbe.mono hB.out.size))
  clear hbe H
  clear h_u
  have hmk : ∀ W : World, (Instr.makeSlice 27 (.int .i64 6) (.int .i64 6)).run Try.prog W = .ok (.slice (some ⟨W.heap.size, 0, none⟩) 6 6) (W.alloc (.cells (intCells [0, 0, 0, 0, 0, 0]) 3)) := fun W => run_make_ints 6 (by omega) W
  have hL1 : bs.length ≤ 1048576 := by omega
  have hL2 : bs'.length ≤ 1048576 := by omega
  go_wp2
  go_loopw [131] (fun i wr => ∃ (k : Nat) (rs : List Int), k ≤ 6 ∧ i = .int .i64 k ∧ rs.length = 6 ∧ (∀ x ∈ rs, 0 ≤ x ∧ x ≤ 63) ∧ IB wr w12.heap.size 3 rs ∧ Below w12.heap.size w12 wr) (fun i _ => 6 - (intOf i).toNat)
  case atStart => exact ⟨0, [0, 0, 0, 0, 0, 0], by omega, rfl, rfl, by decide, heap_alloc_new w12 _, (Below.refl _ _).alloc (Nat.le_refl _) _⟩
  case round =>
    obtain ⟨k, rs, hk, rfl, hr6, hrb, hib, hbe⟩ := hrel
    clear hmk
    by_cases hlt : k < 6
    · clear h_a h_n h_o h_s h_t h_x h_y hB
      have c0 := hib.cell k (by omega)
      have f0 := hib.frozen k
      have hki : (k : Int) < 6 := by omega
      have hk0 : (0 : Int) ≤ (k : Int) := by omega
      have hIB := Lib.hid hib
      have hBE := Lib.hid hbe
      have hRB := Lib.hid hrb
      clear hib hbe hrb
      generalize rs[k] = old at *
      have v1 : IntKind.i64.wrap ((bs.length : Int) * 31) = (bs.length : Int) * 31 := IntWalk.i64_in _ (by omega)
      have v2 : IntKind.i64.wrap ((k : Int) * 19) = (k : Int) * 19 := IntWalk.i64_in _ (by omega)
      have v3 : IntKind.i64.wrap ((bs.length : Int) * 31 + (k : Int) * 19) = (bs.length : Int) * 31 + (k : Int) * 19 := IntWalk.i64_in _ (by omega)
      have v4 : IntKind.i64.wrap ((bs'.length : Int) * 7) = (bs'.length : Int) * 7 := IntWalk.i64_in _ (by omega)
      have v5 : IntKind.i64.wrap ((bs.length : Int) * 31 + (k : Int) * 19 + (bs'.length : Int) * 7) = (bs.length : Int) * 31 + (k : Int) * 19 + (bs'.length : Int) * 7 := IntWalk.i64_in _ (by omega)
      have hv : 0 ≤ (((bs.length : Int) * 31 + (k : Int) * 19 + (bs'.length : Int) * 7) % 64) ∧ (((bs.length : Int) * 31 + (k : Int) * 19 + (bs'.length : Int) * 7) % 64) ≤ 63 := by omega
      have hI2 := Lib.hid (hIB.out.set k (((bs.length : Int) * 31 + (k : Int) * 19 + (bs'.length : Int) * 7) % 64))
      have hB2 := Lib.hid (hBE.out.setCell (p := ⟨w12.heap.size, k, none⟩) (Nat.le_refl _) (.int .i64 (((bs.length : Int) * 31 + (k : Int) * 19 + (bs'.length : Int) * 7) % 64)))
      have hS2 := Lib.hid (set_bd (k := k) hRB.out hv)
      clear hv
      go_wp2
      go_roundw
      case rel => exact ⟨k + 1, _, by omega, by go_num, by rw [List.length_set]; exact hr6, hS2.out, hI2.out, hB2.out⟩
      case measure => simp [intOf]; omega
    · obtain rfl : k = 6 := by omega
      replace h_a := Lib.hid (h_a.out.upD hbe)
      replace h_n := Lib.hid (h_n.out.upD hbe)
      replace h_o := Lib.hid (h_o.out.upD hbe)
      replace h_s := Lib.hid (h_s.out.upD hbe)
      replace h_t := Lib.hid (h_t.out.upD hbe)
      replace h_x := Lib.hid (h_x.out.upD hbe)
      replace h_y := Lib.hid (h_y.out.upD hbe)
      replace hB := Lib.hid (hB.out.trans (hbe.mono hB.out.size))
      generalize hWq : wr = w13 at *
      clear hWq
      have h_g := Lib.hid ((IB.toIS hib).more (Nat.zero_le _) (IB.lt hib) : IS w13 0 w13.heap.size (some ⟨w12.heap.size, 0, none⟩) rs)
      have hG6 := Lib.hid hr6
      have hGb := Lib.hid hrb
      have hGr := Lib.hid (regs_of hr6 hrb)
      clear hib hbe hr6 hrb
      cases T
      · cases I
        · cases J
          · go_wp2
            go_ret
            exact ⟨rfl, hB.out⟩
          · clear h_s
            clear h_t
            clear h_x
            clear h_y
            have hFc := Lib.hid (ren_facts hJ.out hG6.out hGb.out)
            have hmk : ∀ W : World, (Instr.makeSlice 27 (.int .i64 6) (.int .i64 6)).run Try.prog W = .ok (.slice (some ⟨W.heap.size, 0, none⟩) 6 6) (W.alloc (.cells (intCells [0, 0, 0, 0, 0, 0]) 3)) := fun W => run_make_ints 6 (by omega) W
            obtain ⟨nb, no, rfl, hnb, hnc⟩ := h_n.out (by have := hN6.out; omega)
            have hgc := h_g.out (by have := hG6.out; omega)
            obtain ⟨gb, go, hge, hgb, hgc⟩ := hgc
            injection hge with hge; injection hge with hge1 hge2; subst hge1; subst hge2
            have hNC := Lib.hid hnc
            have hGC := Lib.hid hgc
            have hNB := Lib.hid hnb
            have hGB := Lib.hid hgb
            clear hnc hgc hnb hgb
            rw [hN6.out]
            go_wp2
            go_loopw [209] (fun i wr => ∃ k : Nat, k ≤ 6 ∧ i = .int .i64 k ∧ IB wr w13.heap.size 3 (mvN ns rs k) ∧ Below w13.heap.size w13 wr) (fun i _ => 6 - (intOf i).toNat)
            case atStart => exact ⟨0, Nat.zero_le _, rfl, heap_alloc_new w13 _, (Below.refl _ _).alloc (Nat.le_refl _) _⟩
            case round =>
              obtain ⟨k, hk, rfl, hib, hbe⟩ := hrel
              clear hmk
              by_cases hlt : k < 6
              · obtain ⟨p, hp6, hpn, hpv⟩ := hFc.out.2.2.2.2.2.2 k hlt
                have hNG : ns[k]'(by have := hN6.out; omega) = (p : Int) := by rw [← hpn, List.getD_eq_getElem?_getD, List.getElem?_eq_getElem (by have := hN6.out; omega)]; rfl
                have hRG : rs[k]'(by have := hG6.out; omega) = rs.getD k 0 := by rw [List.getD_eq_getElem?_getD, List.getElem?_eq_getElem (by have := hG6.out; omega)]; rfl
                have c1 := (hbe.cell (p := ⟨nb, no + k, none⟩) hNB.out.2).trans (hNC.out k (by have := hN6.out; omega))
                rw [hNG] at c1
                have c2 := (hbe.cell (p := ⟨w12.heap.size, 0 + k, none⟩) hGB.out.2).trans (hGC.out k (by have := hG6.out; omega))
                rw [hRG, Nat.zero_add] at c2
                have hml := mvN_len ns rs k
                have c3 := hib.cell p (by rw [hml]; omega)
                have f3 := hib.frozen p
                generalize (mvN ns rs k)[p]'(by rw [hml]; omega) = old at *
                have hI2 := Lib.hid (hib.set p (rs.getD k 0))
                have hS := mvN_succ ns rs k
                rw [hpn, Int.toNat_natCast] at hS
                rw [← hS] at hI2
                have hB2 := Lib.hid (hbe.setCell (p := ⟨w13.heap.size, p, none⟩) (Nat.le_refl _) (.int .i64 (rs.getD k 0)))
                clear hib hbe hS hpv hpn hNG hRG hml
                generalize rs.getD k 0 = rv at *
                have i1 : (k : Int) < 6 := by omega
                have i2 : (0 : Int) ≤ (k : Int) := by omega
                have i3 : (p : Int) < 6 := by omega
                have i4 : (0 : Int) ≤ (p : Int) := by omega
                go_wp2
                go_roundw
                case rel => exact ⟨k + 1, by omega, by go_num, hI2.out, hB2.out⟩
                case measure => simp [intOf]; omega
              · obtain rfl : k = 6 := by omega
                clear h_n
                have hNC2 := Lib.hid fun (k : Nat) (hk : k < ns.length) => (hbe.cell (p := ⟨nb, no + k, none⟩) hNB.out.2).trans (hNC.out k hk)
                have hNB2 := Lib.hid (Nat.lt_of_lt_of_le hNB.out.2 hbe.size)
                replace h_a := Lib.hid (h_a.out.upD hbe)
                replace h_o := Lib.hid (h_o.out.upD hbe)
                replace h_g := Lib.hid (h_g.out.upD hbe)
                replace hB := Lib.hid (hB.out.trans (hbe.mono hB.out.size))
                have h_m := Lib.hid ((IB.toIS hib).more (Nat.zero_le _) (IB.lt hib) : IS wr 0 wr.heap.size (some ⟨w13.heap.size, 0, none⟩) (mvN ns rs 6))
                clear hib hbe hNC hNB hGC hGB
                generalize hW20 : wr = w20 at *
                clear hW20
                obtain ⟨f1, f2, f3, f4, f5, f6, f7⟩ := hFc.out
                obtain ⟨u1, u2⟩ := run_yes f1 hGr.out
                obtain ⟨u3, u4⟩ := run_yes f2 f3
                have hF7 := Lib.hid f7
                have hF6 := Lib.hid f6
                have hrx : Hid ((runL xa rs).length = 6) := by unfold Hid; rw [runL_len, hG6.out]
                clear f7 f6 hFc
                have hq9 := iRunCode_any 0 w20.heap.size Aa ca xa 0 w20.heap.size (some ⟨w12.heap.size, 0, none⟩) 6 rs w20 (by omega) h_a.out (Nat.le_refl _) (by have := hG6.out; omega) h_g.out (Nat.le_refl _)
                rw [hG6.out] at hq9
                rw [u1] at hq9
                rw [u2] at hq9
                have H := Lib.hid hq9
                clear hq9
                go_wp2_with (fail)
                refine (H.out).mono ?_
                rintro e w21 ⟨Ae, ce, rfl, oe, hbe⟩
                replace h_a := Lib.hid (h_a.out.upD hbe)
                replace h_o := Lib.hid (h_o.out.upD hbe)
                replace h_g := Lib.hid (h_g.out.upD hbe)
                replace h_m := Lib.hid (h_m.out.upD hbe)
                replace hB := Lib.hid (hB.out.trans (hbe.mono hB.out.size))
                have h_e := Lib.hid ((OW.rs oe).more (Nat.zero_le _) (Nat.le_refl _))
                replace hNC2 := Lib.hid fun (k : Nat) (hk : k < ns.length) => (hbe.cell (p := ⟨nb, no + k, none⟩) hNB2.out).trans (hNC2.out k hk)
                replace hNB2 := Lib.hid (Nat.lt_of_lt_of_le hNB2.out hbe.size)
                clear hbe H
                clear oe
                have hq9 := iRunCode_any 0 w21.heap.size Ao co (renR xa ns) 0 w21.heap.size (some ⟨w13.heap.size, 0, none⟩) 6 (mvN ns rs 6) w21 hrl.out h_o.out (Nat.le_refl _) (by rw [f4]; omega) h_m.out (Nat.le_refl _)
                rw [f4] at hq9
                rw [u3] at hq9
                rw [u4] at hq9
                have H := Lib.hid hq9
                clear hq9
                go_wp2_with (fail)
                refine (H.out).mono ?_
                rintro e w22 ⟨Af, cf, rfl, of, hbe⟩
                replace h_a := Lib.hid (h_a.out.upD hbe)
                replace h_o := Lib.hid (h_o.out.upD hbe)
                replace h_g := Lib.hid (h_g.out.upD hbe)
                replace h_m := Lib.hid (h_m.out.upD hbe)
                replace h_e := Lib.hid (h_e.out.upD hbe)
                replace hB := Lib.hid (hB.out.trans (hbe.mono hB.out.size))
                have h_f := Lib.hid ((OW.rs of).more (Nat.zero_le _) (Nat.le_refl _))
                replace hNC2 := Lib.hid fun (k : Nat) (hk : k < ns.length) => (hbe.cell (p := ⟨nb, no + k, none⟩) hNB2.out).trans (hNC2.out k hk)
                replace hNB2 := Lib.hid (Nat.lt_of_lt_of_le hNB2.out hbe.size)
                clear hbe H
                clear of
                have hq9 := iCodeCost_any 0 w22.heap.size Aa ca xa w22 (by omega) h_a.out (Nat.le_refl _)
                rw [f1] at hq9
                have H := Lib.hid hq9
                clear hq9
                go_wp2_with (fail)
                refine (H.out).mono ?_
                rintro e w23 ⟨rfl, hbe⟩
                replace h_a := Lib.hid (h_a.out.upD hbe)
                replace h_o := Lib.hid (h_o.out.upD hbe)
                replace h_g := Lib.hid (h_g.out.upD hbe)
                replace h_m := Lib.hid (h_m.out.upD hbe)
                replace h_e := Lib.hid (h_e.out.upD hbe)
                replace h_f := Lib.hid (h_f.out.upD hbe)
                replace hB := Lib.hid (hB.out.trans (hbe.mono hB.out.size))
                replace hNC2 := Lib.hid fun (k : Nat) (hk : k < ns.length) => (hbe.cell (p := ⟨nb, no + k, none⟩) hNB2.out).trans (hNC2.out k hk)
                replace hNB2 := Lib.hid (Nat.lt_of_lt_of_le hNB2.out hbe.size)
                clear hbe H
                have hq9 := iCodeCost_any 0 w23.heap.size Ao co (renR xa ns) w23 hrl.out h_o.out (Nat.le_refl _)
                rw [f2] at hq9
                rw [f5] at hq9
                have H := Lib.hid hq9
                clear hq9
                go_wp2_with (fail)
                refine (H.out).mono ?_
                rintro e w24 ⟨rfl, hbe⟩
                replace h_a := Lib.hid (h_a.out.upD hbe)
                replace h_o := Lib.hid (h_o.out.upD hbe)
                replace h_g := Lib.hid (h_g.out.upD hbe)
                replace h_m := Lib.hid (h_m.out.upD hbe)
                replace h_e := Lib.hid (h_e.out.upD hbe)
                replace h_f := Lib.hid (h_f.out.upD hbe)
                replace hB := Lib.hid (hB.out.trans (hbe.mono hB.out.size))
                replace hNC2 := Lib.hid fun (k : Nat) (hk : k < ns.length) => (hbe.cell (p := ⟨nb, no + k, none⟩) hNB2.out).trans (hNC2.out k hk)
                replace hNB2 := Lib.hid (Nat.lt_of_lt_of_le hNB2.out hbe.size)
                clear hbe H
                obtain ⟨eb, eo, rfl, heb, hec⟩ := h_e.out (by have := hrx.out; omega)
                obtain ⟨fb, fo, rfl, hfb, hfc⟩ := h_f.out (by have := hF6.out; omega)
                have hEC := Lib.hid hec
                have hFC := Lib.hid hfc
                have hEB := Lib.hid heb
                have hFB := Lib.hid hfb
                clear hec hfc heb hfb h_e h_f h_a h_o h_g h_m f1 f2 f3 f4 f5 u1 u2 u3 u4
                rw [hrx.out, hF6.out]
                go_wp2
                go_loopw [265] (fun i wr => ∃ k : Nat, k ≤ 6 ∧ i = .int .i64 k ∧ Below w24.heap.size w24 wr) (fun i _ => 6 - (intOf i).toNat)
                case atStart => exact ⟨0, Nat.zero_le _, rfl, Below.refl _ _⟩
                case round =>
                  obtain ⟨k, hk, rfl, hbe⟩ := hrel
                  by_cases hlt : k < 6
                  · obtain ⟨p, hp6, hpn, hpv⟩ := hF7.out k hlt
                    have hNG : ns[k]'(by have := hN6.out; omega) = (p : Int) := by rw [← hpn, List.getD_eq_getElem?_getD, List.getElem?_eq_getElem (by have := hN6.out; omega)]; rfl
                    have c1 := (hbe.cell (p := ⟨nb, no + k, none⟩) hNB2.out).trans (hNC2.out k (by have := hN6.out; omega))
                    rw [hNG] at c1
                    have c2 := (hbe.cell (p := ⟨eb, eo + k, none⟩) hEB.out.2).trans (hEC.out k (by have := hrx.out; omega))
                    have c3 := (hbe.cell (p := ⟨fb, fo + p, none⟩) hFB.out.2).trans (hFC.out p (by have := hF6.out; omega))
                    have hRG : (runL xa rs)[k]'(by have := hrx.out; omega) = (runL xa rs).getD k 0 := by rw [List.getD_eq_getElem?_getD, List.getElem?_eq_getElem (by have := hrx.out; omega)]; rfl
                    have hRF : (runL (renR xa ns) (mvN ns rs 6))[p]'(by have := hF6.out; omega) = (runL (renR xa ns) (mvN ns rs 6)).getD p 0 := by rw [List.getD_eq_getElem?_getD, List.getElem?_eq_getElem (by have := hF6.out; omega)]; rfl
                    rw [hRG] at c2
                    rw [hRF, hpv] at c3
                    have hBE := Lib.hid hbe
                    clear hbe hRG hRF hNG hpv hpn
                    generalize (runL xa rs).getD k 0 = rv at *
                    have i1 : (k : Int) < 6 := by omega
                    have i2 : (0 : Int) ≤ (k : Int) := by omega
                    have i3 : (p : Int) < 6 := by omega
                    have i4 : (0 : Int) ≤ (p : Int) := by omega
                    go_wp2_with (fail)
                    go_quiet (fail)
                    go_wp2
                    go_roundw
                    case rel => exact ⟨k + 1, by omega, by go_num, below_drewD hBE.out _⟩
                    case measure => simp [intOf]; omega
                  · obtain rfl : k = 6 := by omega
                    have hBB := Lib.hid (hB.out.trans (hbe.mono hB.out.size))
                    clear hbe
                    go_wp2
                    go_ret
                    exact ⟨rfl, hBB.out⟩
        · obtain ⟨x0, x1, x2, x3, x4⟩ := XB.cells h_x.out
          simp only at x0 x1 x2 x3 x4
          obtain ⟨y0, y1, y2, y3, y4⟩ := XB.cells h_y.out
          simp only at y0 y1 y2 y3 y4
          have hq9 := iAreIndependent_any ⟨op', d', a', b', m'⟩ ⟨op, d, a, b, m⟩ w13
          rw [indR_comm, hU.out, Bool.and_comm, hI.out] at hq9
          have H := Lib.hid hq9
          clear hq9
          go_wp2_with (fail)
          clear x0 x1 x2 x3 x4
          clear y0 y1 y2 y3 y4
          refine (H.out).mono ?_
          rintro e w14 ⟨rfl, hbe⟩
          replace h_a := Lib.hid (h_a.out.upD hbe)
          replace h_n := Lib.hid (h_n.out.upD hbe)
          replace h_o := Lib.hid (h_o.out.upD hbe)
          replace h_s := Lib.hid (h_s.out.upD hbe)
          replace h_t := Lib.hid (h_t.out.upD hbe)
          replace h_x := Lib.hid (h_x.out.upD hbe)
          replace h_y := Lib.hid (h_y.out.upD hbe)
          replace h_g := Lib.hid (h_g.out.upD hbe)
          replace hB := Lib.hid (hB.out.trans (hbe.mono hB.out.size))
          clear hbe H
          cases J
          · go_wp2
            go_ret
            exact ⟨rfl, hB.out⟩
          · clear h_s
            clear h_t
            clear h_x
            clear h_y
            have hFc := Lib.hid (ren_facts hJ.out hG6.out hGb.out)
            have hmk : ∀ W : World, (Instr.makeSlice 27 (.int .i64 6) (.int .i64 6)).run Try.prog W = .ok (.slice (some ⟨W.heap.size, 0, none⟩) 6 6) (W.alloc (.cells (intCells [0, 0, 0, 0, 0, 0]) 3)) := fun W => run_make_ints 6 (by omega) W
            obtain ⟨nb, no, rfl, hnb, hnc⟩ := h_n.out (by have := hN6.out; omega)
            have hgc := h_g.out (by have := hG6.out; omega)
            obtain ⟨gb, go, hge, hgb, hgc⟩ := hgc
            injection hge with hge; injection hge with hge1 hge2; subst hge1; subst hge2
            have hNC := Lib.hid hnc
            have hGC := Lib.hid hgc
            have hNB := Lib.hid hnb
            have hGB := Lib.hid hgb
            clear hnc hgc hnb hgb
            rw [hN6.out]
            go_wp2
            go_loopw [209] (fun i wr => ∃ k : Nat, k ≤ 6 ∧ i = .int .i64 k ∧ IB wr w14.heap.size 3 (mvN ns rs k) ∧ Below w14.heap.size w14 wr) (fun i _ => 6 - (intOf i).toNat)
            case atStart => exact ⟨0, Nat.zero_le _, rfl, heap_alloc_new w14 _, (Below.refl _ _).alloc (Nat.le_refl _) _⟩
            case round =>
              obtain ⟨k, hk, rfl, hib, hbe⟩ := hrel
              clear hmk
              by_cases hlt : k < 6
              · obtain ⟨p, hp6, hpn, hpv⟩ := hFc.out.2.2.2.2.2.2 k hlt
                have hNG : ns[k]'(by have := hN6.out; omega) = (p : Int) := by rw [← hpn, List.getD_eq_getElem?_getD, List.getElem?_eq_getElem (by have := hN6.out; omega)]; rfl
                have hRG : rs[k]'(by have := hG6.out; omega) = rs.getD k 0 := by rw [List.getD_eq_getElem?_getD, List.getElem?_eq_getElem (by have := hG6.out; omega)]; rfl
                have c1 := (hbe.cell (p := ⟨nb, no + k, none⟩) hNB.out.2).trans (hNC.out k (by have := hN6.out; omega))
                rw [hNG] at c1
                have c2 := (hbe.cell (p := ⟨w12.heap.size, 0 + k, none⟩) hGB.out.2).trans (hGC.out k (by have := hG6.out; omega))
                rw [hRG, Nat.zero_add] at c2
                have hml := mvN_len ns rs k
                have c3 := hib.cell p (by rw [hml]; omega)
                have f3 := hib.frozen p
                generalize (mvN ns rs k)[p]'(by rw [hml]; omega) = old at *
                have hI2 := Lib.hid (hib.set p (rs.getD k 0))
                have hS := mvN_succ ns rs k
                rw [hpn, Int.toNat_natCast] at hS
                rw [← hS] at hI2
                have hB2 := Lib.hid (hbe.setCell (p := ⟨w14.heap.size, p, none⟩) (Nat.le_refl _) (.int .i64 (rs.getD k 0)))
                clear hib hbe hS hpv hpn hNG hRG hml
                generalize rs.getD k 0 = rv at *
                have i1 : (k : Int) < 6 := by omega
                have i2 : (0 : Int) ≤ (k : Int) := by omega
                have i3 : (p : Int) < 6 := by omega
                have i4 : (0 : Int) ≤ (p : Int) := by omega
                go_wp2
                go_roundw
                case rel => exact ⟨k + 1, by omega, by go_num, hI2.out, hB2.out⟩
                case measure => simp [intOf]; omega
              · obtain rfl : k = 6 := by omega
                clear h_n
                have hNC2 := Lib.hid fun (k : Nat) (hk : k < ns.length) => (hbe.cell (p := ⟨nb, no + k, none⟩) hNB.out.2).trans (hNC.out k hk)
                have hNB2 := Lib.hid (Nat.lt_of_lt_of_le hNB.out.2 hbe.size)
                replace h_a := Lib.hid (h_a.out.upD hbe)
                replace h_o := Lib.hid (h_o.out.upD hbe)
                replace h_g := Lib.hid (h_g.out.upD hbe)
                replace hB := Lib.hid (hB.out.trans (hbe.mono hB.out.size))
                have h_m := Lib.hid ((IB.toIS hib).more (Nat.zero_le _) (IB.lt hib) : IS wr 0 wr.heap.size (some ⟨w14.heap.size, 0, none⟩) (mvN ns rs 6))
                clear hib hbe hNC hNB hGC hGB
                generalize hW20 : wr = w20 at *
                clear hW20
                obtain ⟨f1, f2, f3, f4, f5, f6, f7⟩ := hFc.out
                obtain ⟨u1, u2⟩ := run_yes f1 hGr.out
                obtain ⟨u3, u4⟩ := run_yes f2 f3
                have hF7 := Lib.hid f7
                have hF6 := Lib.hid f6
                have hrx : Hid ((runL xa rs).length = 6) := by unfold Hid; rw [runL_len, hG6.out]
                clear f7 f6 hFc
                have hq9 := iRunCode_any 0 w20.heap.size Aa ca xa 0 w20.heap.size (some ⟨w12.heap.size, 0, none⟩) 6 rs w20 (by omega) h_a.out (Nat.le_refl _) (by have := hG6.out; omega) h_g.out (Nat.le_refl _)
                rw [hG6.out] at hq9
                rw [u1] at hq9
                rw [u2] at hq9
                have H := Lib.hid hq9
                clear hq9
                go_wp2_with (fail)
                refine (H.out).mono ?_
                rintro e w21 ⟨Ae, ce, rfl, oe, hbe⟩
                replace h_a := Lib.hid (h_a.out.upD hbe)
                replace h_o := Lib.hid (h_o.out.upD hbe)
                replace h_g := Lib.hid (h_g.out.upD hbe)
                replace h_m := Lib.hid (h_m.out.upD hbe)
                replace hB := Lib.hid (hB.out.trans (hbe.mono hB.out.size))
                have h_e := Lib.hid ((OW.rs oe).more (Nat.zero_le _) (Nat.le_refl _))
                replace hNC2 := Lib.hid fun (k : Nat) (hk : k < ns.length) => (hbe.cell (p := ⟨nb, no + k, none⟩) hNB2.out).trans (hNC2.out k hk)
                replace hNB2 := Lib.hid (Nat.lt_of_lt_of_le hNB2.out hbe.size)
                clear hbe H
                clear oe
                have hq9 := iRunCode_any 0 w21.heap.size Ao co (renR xa ns) 0 w21.heap.size (some ⟨w14.heap.size, 0, none⟩) 6 (mvN ns rs 6) w21 hrl.out h_o.out (Nat.le_refl _) (by rw [f4]; omega) h_m.out (Nat.le_refl _)
                rw [f4] at hq9
                rw [u3] at hq9
                rw [u4] at hq9
                have H := Lib.hid hq9
                clear hq9
                go_wp2_with (fail)
                refine (H.out).mono ?_
                rintro e w22 ⟨Af, cf, rfl, of, hbe⟩
                replace h_a := Lib.hid (h_a.out.upD hbe)
                replace h_o := Lib.hid (h_o.out.upD hbe)
                replace h_g := Lib.hid (h_g.out.upD hbe)
                replace h_m := Lib.hid (h_m.out.upD hbe)
                replace h_e := Lib.hid (h_e.out.upD hbe)
                replace hB := Lib.hid (hB.out.trans (hbe.mono hB.out.size))
                have h_f := Lib.hid ((OW.rs of).more (Nat.zero_le _) (Nat.le_refl _))
                replace hNC2 := Lib.hid fun (k : Nat) (hk : k < ns.length) => (hbe.cell (p := ⟨nb, no + k, none⟩) hNB2.out).trans (hNC2.out k hk)
                replace hNB2 := Lib.hid (Nat.lt_of_lt_of_le hNB2.out hbe.size)
                clear hbe H
                clear of
                have hq9 := iCodeCost_any 0 w22.heap.size Aa ca xa w22 (by omega) h_a.out (Nat.le_refl _)
                rw [f1] at hq9
                have H := Lib.hid hq9
                clear hq9
                go_wp2_with (fail)
                refine (H.out).mono ?_
                rintro e w23 ⟨rfl, hbe⟩
                replace h_a := Lib.hid (h_a.out.upD hbe)
                replace h_o := Lib.hid (h_o.out.upD hbe)
                replace h_g := Lib.hid (h_g.out.upD hbe)
                replace h_m := Lib.hid (h_m.out.upD hbe)
                replace h_e := Lib.hid (h_e.out.upD hbe)
                replace h_f := Lib.hid (h_f.out.upD hbe)
                replace hB := Lib.hid (hB.out.trans (hbe.mono hB.out.size))
                replace hNC2 := Lib.hid fun (k : Nat) (hk : k < ns.length) => (hbe.cell (p := ⟨nb, no + k, none⟩) hNB2.out).trans (hNC2.out k hk)
                replace hNB2 := Lib.hid (Nat.lt_of_lt_of_le hNB2.out hbe.size)
                clear hbe H
                have hq9 := iCodeCost_any 0 w23.heap.size Ao co (renR xa ns) w23 hrl.out h_o.out (Nat.le_refl _)
                rw [f2] at hq9
                rw [f5] at hq9
                have H := Lib.hid hq9
                clear hq9
                go_wp2_with (fail)
                refine (H.out).mono ?_
                rintro e w24 ⟨rfl, hbe⟩
                replace h_a := Lib.hid (h_a.out.upD hbe)
                replace h_o := Lib.hid (h_o.out.upD hbe)
                replace h_g := Lib.hid (h_g.out.upD hbe)
                replace h_m := Lib.hid (h_m.out.upD hbe)
                replace h_e := Lib.hid (h_e.out.upD hbe)
                replace h_f := Lib.hid (h_f.out.upD hbe)
                replace hB := Lib.hid (hB.out.trans (hbe.mono hB.out.size))
                replace hNC2 := Lib.hid fun (k : Nat) (hk : k < ns.length) => (hbe.cell (p := ⟨nb, no + k, none⟩) hNB2.out).trans (hNC2.out k hk)
                replace hNB2 := Lib.hid (Nat.lt_of_lt_of_le hNB2.out hbe.size)
                clear hbe H
                obtain ⟨eb, eo, rfl, heb, hec⟩ := h_e.out (by have := hrx.out; omega)
                obtain ⟨fb, fo, rfl, hfb, hfc⟩ := h_f.out (by have := hF6.out; omega)
                have hEC := Lib.hid hec
                have hFC := Lib.hid hfc
                have hEB := Lib.hid heb
                have hFB := Lib.hid hfb
                clear hec hfc heb hfb h_e h_f h_a h_o h_g h_m f1 f2 f3 f4 f5 u1 u2 u3 u4
                rw [hrx.out, hF6.out]
                go_wp2
                go_loopw [265] (fun i wr => ∃ k : Nat, k ≤ 6 ∧ i = .int .i64 k ∧ Below w24.heap.size w24 wr) (fun i _ => 6 - (intOf i).toNat)
                case atStart => exact ⟨0, Nat.zero_le _, rfl, Below.refl _ _⟩
                case round =>
                  obtain ⟨k, hk, rfl, hbe⟩ := hrel
                  by_cases hlt : k < 6
                  · obtain ⟨p, hp6, hpn, hpv⟩ := hF7.out k hlt
                    have hNG : ns[k]'(by have := hN6.out; omega) = (p : Int) := by rw [← hpn, List.getD_eq_getElem?_getD, List.getElem?_eq_getElem (by have := hN6.out; omega)]; rfl
                    have c1 := (hbe.cell (p := ⟨nb, no + k, none⟩) hNB2.out).trans (hNC2.out k (by have := hN6.out; omega))
                    rw [hNG] at c1
                    have c2 := (hbe.cell (p := ⟨eb, eo + k, none⟩) hEB.out.2).trans (hEC.out k (by have := hrx.out; omega))
                    have c3 := (hbe.cell (p := ⟨fb, fo + p, none⟩) hFB.out.2).trans (hFC.out p (by have := hF6.out; omega))
                    have hRG : (runL xa rs)[k]'(by have := hrx.out; omega) = (runL xa rs).getD k 0 := by rw [List.getD_eq_getElem?_getD, List.getElem?_eq_getElem (by have := hrx.out; omega)]; rfl
                    have hRF : (runL (renR xa ns) (mvN ns rs 6))[p]'(by have := hF6.out; omega) = (runL (renR xa ns) (mvN ns rs 6)).getD p 0 := by rw [List.getD_eq_getElem?_getD, List.getElem?_eq_getElem (by have := hF6.out; omega)]; rfl
                    rw [hRG] at c2
                    rw [hRF, hpv] at c3
                    have hBE := Lib.hid hbe
                    clear hbe hRG hRF hNG hpv hpn
                    generalize (runL xa rs).getD k 0 = rv at *
                    have i1 : (k : Int) < 6 := by omega
                    have i2 : (0 : Int) ≤ (k : Int) := by omega
                    have i3 : (p : Int) < 6 := by omega
                    have i4 : (0 : Int) ≤ (p : Int) := by omega
                    go_wp2_with (fail)
                    go_quiet (fail)
                    go_wp2
                    go_roundw
                    case rel => exact ⟨k + 1, by omega, by go_num, below_drewD hBE.out _⟩
                    case measure => simp [intOf]; omega
                  · obtain rfl : k = 6 := by omega
                    have hBB := Lib.hid (hB.out.trans (hbe.mono hB.out.size))
                    clear hbe
                    go_wp2
                    go_ret
                    exact ⟨rfl, hBB.out⟩
      · obtain ⟨sk1, sk2, sk3, sk4, sk5, sk6⟩ := swap_facts hT.out hG6.out
        obtain ⟨rk1, rk2⟩ := run_yes sk1 hGr.out
        obtain ⟨rk3, rk4⟩ := run_yes sk2 hGr.out
        rw [sk3] at rk4
        have hrn : Hid ((runL xs rs).length = 6) := by unfold Hid; rw [runL_len, hG6.out]
        have hq9 := iRunCode_any 0 w13.heap.size As cs xs 0 w13.heap.size (some ⟨w12.heap.size, 0, none⟩) 6 rs w13 (by omega) h_s.out (Nat.le_refl _) (by have := hG6.out; omega) h_g.out (Nat.le_refl _)
        rw [hG6.out] at hq9
        rw [rk1] at hq9
        rw [rk2] at hq9
        have H := Lib.hid hq9
        clear hq9
        go_wp2_with (fail)
        refine (H.out).mono ?_
        rintro e w14 ⟨Ac, cc, rfl, oc, hbe⟩
        replace h_a := Lib.hid (h_a.out.upD hbe)
        replace h_n := Lib.hid (h_n.out.upD hbe)
        replace h_o := Lib.hid (h_o.out.upD hbe)
        replace h_s := Lib.hid (h_s.out.upD hbe)
        replace h_t := Lib.hid (h_t.out.upD hbe)
        replace h_x := Lib.hid (h_x.out.upD hbe)
        replace h_y := Lib.hid (h_y.out.upD hbe)
        replace h_g := Lib.hid (h_g.out.upD hbe)
        replace hB := Lib.hid (hB.out.trans (hbe.mono hB.out.size))
        have h_c := Lib.hid ((OW.rs oc).more (Nat.zero_le _) (Nat.le_refl _))
        clear hbe H
        clear oc
        have hq9 := iRunCode_any 0 w14.heap.size At ct (swapR xs i) 0 w14.heap.size (some ⟨w12.heap.size, 0, none⟩) 6 rs w14 (by omega) h_t.out (Nat.le_refl _) (by have := hG6.out; omega) h_g.out (Nat.le_refl _)
        rw [hG6.out] at hq9
        rw [rk3] at hq9
        rw [rk4] at hq9
        have H := Lib.hid hq9
        clear hq9
        go_wp2_with (fail)
        refine (H.out).mono ?_
        rintro e w15 ⟨Ad, cd, rfl, od, hbe⟩
        replace h_a := Lib.hid (h_a.out.upD hbe)
        replace h_n := Lib.hid (h_n.out.upD hbe)
        replace h_o := Lib.hid (h_o.out.upD hbe)
        replace h_s := Lib.hid (h_s.out.upD hbe)
        replace h_t := Lib.hid (h_t.out.upD hbe)
        replace h_x := Lib.hid (h_x.out.upD hbe)
        replace h_y := Lib.hid (h_y.out.upD hbe)
        replace h_g := Lib.hid (h_g.out.upD hbe)
        replace h_c := Lib.hid (h_c.out.upD hbe)
        replace hB := Lib.hid (hB.out.trans (hbe.mono hB.out.size))
        have h_d := Lib.hid ((OW.rs od).more (Nat.zero_le _) (Nat.le_refl _))
        clear hbe H
        clear od
        have hq9 := iSwap_any 0 w15.heap.size At ct (swapR xs i) i w15 (by omega) h_t.out (Nat.le_refl _)
        rw [sk4] at hq9
        rw [sk5] at hq9
        have H := Lib.hid hq9
        clear hq9
        go_wp2_with (fail)
        refine (H.out).mono ?_
        rintro e w16 ⟨Ab, cb, rfl, ob, hbe⟩
        replace h_a := Lib.hid (h_a.out.upD hbe)
        replace h_n := Lib.hid (h_n.out.upD hbe)
        replace h_o := Lib.hid (h_o.out.upD hbe)
        replace h_s := Lib.hid (h_s.out.upD hbe)
        replace h_t := Lib.hid (h_t.out.upD hbe)
        replace h_x := Lib.hid (h_x.out.upD hbe)
        replace h_y := Lib.hid (h_y.out.upD hbe)
        replace h_g := Lib.hid (h_g.out.upD hbe)
        replace h_c := Lib.hid (h_c.out.upD hbe)
        replace h_d := Lib.hid (h_d.out.upD hbe)
        replace hB := Lib.hid (hB.out.trans (hbe.mono hB.out.size))
        have h_b := Lib.hid ((OK.rsD ob).more (Nat.zero_le _) (Nat.le_refl _))
        clear hbe H
        clear ob
        have H := Lib.hid (pSame_eq 0 w16.heap.size 0 w16.heap.size Ac Ad _ _ cc cd (runL xs rs) w16 rfl rfl (by rw [hrn.out]; omega) h_c.out h_d.out)
        go_wp2_with (fail)
        refine (H.out).mono ?_
        rintro e w17 ⟨rfl, n, hn⟩
        have hbe := yes_below hn
        clear hn n
        replace h_a := Lib.hid (h_a.out.upD hbe)
        replace h_n := Lib.hid (h_n.out.upD hbe)
        replace h_o := Lib.hid (h_o.out.upD hbe)
        replace h_s := Lib.hid (h_s.out.upD hbe)
        replace h_t := Lib.hid (h_t.out.upD hbe)
        replace h_x := Lib.hid (h_x.out.upD hbe)
        replace h_y := Lib.hid (h_y.out.upD hbe)
        replace h_g := Lib.hid (h_g.out.upD hbe)
        replace h_c := Lib.hid (h_c.out.upD hbe)
        replace h_d := Lib.hid (h_d.out.upD hbe)
        replace h_b := Lib.hid (h_b.out.upD hbe)
        replace hB := Lib.hid (hB.out.trans (hbe.mono hB.out.size))
        clear hbe H
        have H := Lib.hid (pSameCode_eq 0 w17.heap.size 0 w17.heap.size Ab As _ _ cb cs xs w17 rfl rfl (by omega) h_b.out h_s.out)
        go_wp2_with (fail)
        refine (H.out).mono ?_
        rintro e w18 ⟨rfl, n, hn⟩
        have hbe := yes_below hn
        clear hn n
        replace h_a := Lib.hid (h_a.out.upD hbe)
        replace h_n := Lib.hid (h_n.out.upD hbe)
        replace h_o := Lib.hid (h_o.out.upD hbe)
        replace h_s := Lib.hid (h_s.out.upD hbe)
        replace h_t := Lib.hid (h_t.out.upD hbe)
        replace h_x := Lib.hid (h_x.out.upD hbe)
        replace h_y := Lib.hid (h_y.out.upD hbe)
        replace h_g := Lib.hid (h_g.out.upD hbe)
        replace h_c := Lib.hid (h_c.out.upD hbe)
        replace h_d := Lib.hid (h_d.out.upD hbe)
        replace h_b := Lib.hid (h_b.out.upD hbe)
        replace hB := Lib.hid (hB.out.trans (hbe.mono hB.out.size))
        clear hbe H
        clear h_c
        clear h_d
        clear h_b
        clear sk1 sk2 sk3 sk4 sk5 sk6 rk1 rk2 rk3 rk4 hrn
        cases I
        · cases J
          · go_wp2
            go_ret
            exact ⟨rfl, hB.out⟩
          · clear h_s
            clear h_t
            clear h_x
            clear h_y
            have hFc := Lib.hid (ren_facts hJ.out hG6.out hGb.out)
            have hmk : ∀ W : World, (Instr.makeSlice 27 (.int .i64 6) (.int .i64 6)).run Try.prog W = .ok (.slice (some ⟨W.heap.size, 0, none⟩) 6 6) (W.alloc (.cells (intCells [0, 0, 0, 0, 0, 0]) 3)) := fun W => run_make_ints 6 (by omega) W
            obtain ⟨nb, no, rfl, hnb, hnc⟩ := h_n.out (by have := hN6.out; omega)
            have hgc := h_g.out (by have := hG6.out; omega)
            obtain ⟨gb, go, hge, hgb, hgc⟩ := hgc
            injection hge with hge; injection hge with hge1 hge2; subst hge1; subst hge2
            have hNC := Lib.hid hnc
            have hGC := Lib.hid hgc
            have hNB := Lib.hid hnb
            have hGB := Lib.hid hgb
            clear hnc hgc hnb hgb
            rw [hN6.out]
            go_wp2
            go_loopw [209] (fun i wr => ∃ k : Nat, k ≤ 6 ∧ i = .int .i64 k ∧ IB wr w18.heap.size 3 (mvN ns rs k) ∧ Below w18.heap.size w18 wr) (fun i _ => 6 - (intOf i).toNat)
            case atStart => exact ⟨0, Nat.zero_le _, rfl, heap_alloc_new w18 _, (Below.refl _ _).alloc (Nat.le_refl _) _⟩
            case round =>
              obtain ⟨k, hk, rfl, hib, hbe⟩ := hrel
              clear hmk
              by_cases hlt : k < 6
              · obtain ⟨p, hp6, hpn, hpv⟩ := hFc.out.2.2.2.2.2.2 k hlt
                have hNG : ns[k]'(by have := hN6.out; omega) = (p : Int) := by rw [← hpn, List.getD_eq_getElem?_getD, List.getElem?_eq_getElem (by have := hN6.out; omega)]; rfl
                have hRG : rs[k]'(by have := hG6.out; omega) = rs.getD k 0 := by rw [List.getD_eq_getElem?_getD, List.getElem?_eq_getElem (by have := hG6.out; omega)]; rfl
                have c1 := (hbe.cell (p := ⟨nb, no + k, none⟩) hNB.out.2).trans (hNC.out k (by have := hN6.out; omega))
                rw [hNG] at c1
                have c2 := (hbe.cell (p := ⟨w12.heap.size, 0 + k, none⟩) hGB.out.2).trans (hGC.out k (by have := hG6.out; omega))
                rw [hRG, Nat.zero_add] at c2
                have hml := mvN_len ns rs k
                have c3 := hib.cell p (by rw [hml]; omega)
                have f3 := hib.frozen p
                generalize (mvN ns rs k)[p]'(by rw [hml]; omega) = old at *
                have hI2 := Lib.hid (hib.set p (rs.getD k 0))
                have hS := mvN_succ ns rs k
                rw [hpn, Int.toNat_natCast] at hS
                rw [← hS] at hI2
                have hB2 := Lib.hid (hbe.setCell (p := ⟨w18.heap.size, p, none⟩) (Nat.le_refl _) (.int .i64 (rs.getD k 0)))
                clear hib hbe hS hpv hpn hNG hRG hml
                generalize rs.getD k 0 = rv at *
                have i1 : (k : Int) < 6 := by omega
                have i2 : (0 : Int) ≤ (k : Int) := by omega
                have i3 : (p : Int) < 6 := by omega
                have i4 : (0 : Int) ≤ (p : Int) := by omega
                go_wp2
                go_roundw
                case rel => exact ⟨k + 1, by omega, by go_num, hI2.out, hB2.out⟩
                case measure => simp [intOf]; omega
              · obtain rfl : k = 6 := by omega
                clear h_n
                have hNC2 := Lib.hid fun (k : Nat) (hk : k < ns.length) => (hbe.cell (p := ⟨nb, no + k, none⟩) hNB.out.2).trans (hNC.out k hk)
                have hNB2 := Lib.hid (Nat.lt_of_lt_of_le hNB.out.2 hbe.size)
                replace h_a := Lib.hid (h_a.out.upD hbe)
                replace h_o := Lib.hid (h_o.out.upD hbe)
                replace h_g := Lib.hid (h_g.out.upD hbe)
                replace hB := Lib.hid (hB.out.trans (hbe.mono hB.out.size))
                have h_m := Lib.hid ((IB.toIS hib).more (Nat.zero_le _) (IB.lt hib) : IS wr 0 wr.heap.size (some ⟨w18.heap.size, 0, none⟩) (mvN ns rs 6))
                clear hib hbe hNC hNB hGC hGB
                generalize hW20 : wr = w20 at *
                clear hW20
                obtain ⟨f1, f2, f3, f4, f5, f6, f7⟩ := hFc.out
                obtain ⟨u1, u2⟩ := run_yes f1 hGr.out
                obtain ⟨u3, u4⟩ := run_yes f2 f3
                have hF7 := Lib.hid f7
                have hF6 := Lib.hid f6
                have hrx : Hid ((runL xa rs).length = 6) := by unfold Hid; rw [runL_len, hG6.out]
                clear f7 f6 hFc
                have hq9 := iRunCode_any 0 w20.heap.size Aa ca xa 0 w20.heap.size (some ⟨w12.heap.size, 0, none⟩) 6 rs w20 (by omega) h_a.out (Nat.le_refl _) (by have := hG6.out; omega) h_g.out (Nat.le_refl _)
                rw [hG6.out] at hq9
                rw [u1] at hq9
                rw [u2] at hq9
                have H := Lib.hid hq9
                clear hq9
                go_wp2_with (fail)
                refine (H.out).mono ?_
                rintro e w21 ⟨Ae, ce, rfl, oe, hbe⟩
                replace h_a := Lib.hid (h_a.out.upD hbe)
                replace h_o := Lib.hid (h_o.out.upD hbe)
                replace h_g := Lib.hid (h_g.out.upD hbe)
                replace h_m := Lib.hid (h_m.out.upD hbe)
                replace hB := Lib.hid (hB.out.trans (hbe.mono hB.out.size))
                have h_e := Lib.hid ((OW.rs oe).more (Nat.zero_le _) (Nat.le_refl _))
                replace hNC2 := Lib.hid fun (k : Nat) (hk : k < ns.length) => (hbe.cell (p := ⟨nb, no + k, none⟩) hNB2.out).trans (hNC2.out k hk)
                replace hNB2 := Lib.hid (Nat.lt_of_lt_of_le hNB2.out hbe.size)
                clear hbe H
                clear oe
                have hq9 := iRunCode_any 0 w21.heap.size Ao co (renR xa ns) 0 w21.heap.size (some ⟨w18.heap.size, 0, none⟩) 6 (mvN ns rs 6) w21 hrl.out h_o.out (Nat.le_refl _) (by rw [f4]; omega) h_m.out (Nat.le_refl _)
                rw [f4] at hq9
                rw [u3] at hq9
                rw [u4] at hq9
                have H := Lib.hid hq9
                clear hq9
                go_wp2_with (fail)
                refine (H.out).mono ?_
                rintro e w22 ⟨Af, cf, rfl, of, hbe⟩
                replace h_a := Lib.hid (h_a.out.upD hbe)
                replace h_o := Lib.hid (h_o.out.upD hbe)
                replace h_g := Lib.hid (h_g.out.upD hbe)
                replace h_m := Lib.hid (h_m.out.upD hbe)
                replace h_e := Lib.hid (h_e.out.upD hbe)
                replace hB := Lib.hid (hB.out.trans (hbe.mono hB.out.size))
                have h_f := Lib.hid ((OW.rs of).more (Nat.zero_le _) (Nat.le_refl _))
                replace hNC2 := Lib.hid fun (k : Nat) (hk : k < ns.length) => (hbe.cell (p := ⟨nb, no + k, none⟩) hNB2.out).trans (hNC2.out k hk)
                replace hNB2 := Lib.hid (Nat.lt_of_lt_of_le hNB2.out hbe.size)
                clear hbe H
                clear of
                have hq9 := iCodeCost_any 0 w22.heap.size Aa ca xa w22 (by omega) h_a.out (Nat.le_refl _)
                rw [f1] at hq9
                have H := Lib.hid hq9
                clear hq9
                go_wp2_with (fail)
                refine (H.out).mono ?_
                rintro e w23 ⟨rfl, hbe⟩
                replace h_a := Lib.hid (h_a.out.upD hbe)
                replace h_o := Lib.hid (h_o.out.upD hbe)
                replace h_g := Lib.hid (h_g.out.upD hbe)
                replace h_m := Lib.hid (h_m.out.upD hbe)
                replace h_e := Lib.hid (h_e.out.upD hbe)
                replace h_f := Lib.hid (h_f.out.upD hbe)
                replace hB := Lib.hid (hB.out.trans (hbe.mono hB.out.size))
                replace hNC2 := Lib.hid fun (k : Nat) (hk : k < ns.length) => (hbe.cell (p := ⟨nb, no + k, none⟩) hNB2.out).trans (hNC2.out k hk)
                replace hNB2 := Lib.hid (Nat.lt_of_lt_of_le hNB2.out hbe.size)
                clear hbe H
                have hq9 := iCodeCost_any 0 w23.heap.size Ao co (renR xa ns) w23 hrl.out h_o.out (Nat.le_refl _)
                rw [f2] at hq9
                rw [f5] at hq9
                have H := Lib.hid hq9
                clear hq9
                go_wp2_with (fail)
                refine (H.out).mono ?_
                rintro e w24 ⟨rfl, hbe⟩
                replace h_a := Lib.hid (h_a.out.upD hbe)
                replace h_o := Lib.hid (h_o.out.upD hbe)
                replace h_g := Lib.hid (h_g.out.upD hbe)
                replace h_m := Lib.hid (h_m.out.upD hbe)
                replace h_e := Lib.hid (h_e.out.upD hbe)
                replace h_f := Lib.hid (h_f.out.upD hbe)
                replace hB := Lib.hid (hB.out.trans (hbe.mono hB.out.size))
                replace hNC2 := Lib.hid fun (k : Nat) (hk : k < ns.length) => (hbe.cell (p := ⟨nb, no + k, none⟩) hNB2.out).trans (hNC2.out k hk)
                replace hNB2 := Lib.hid (Nat.lt_of_lt_of_le hNB2.out hbe.size)
                clear hbe H
                obtain ⟨eb, eo, rfl, heb, hec⟩ := h_e.out (by have := hrx.out; omega)
                obtain ⟨fb, fo, rfl, hfb, hfc⟩ := h_f.out (by have := hF6.out; omega)
                have hEC := Lib.hid hec
                have hFC := Lib.hid hfc
                have hEB := Lib.hid heb
                have hFB := Lib.hid hfb
                clear hec hfc heb hfb h_e h_f h_a h_o h_g h_m f1 f2 f3 f4 f5 u1 u2 u3 u4
                rw [hrx.out, hF6.out]
                go_wp2
                go_loopw [265] (fun i wr => ∃ k : Nat, k ≤ 6 ∧ i = .int .i64 k ∧ Below w24.heap.size w24 wr) (fun i _ => 6 - (intOf i).toNat)
                case atStart => exact ⟨0, Nat.zero_le _, rfl, Below.refl _ _⟩
                case round =>
                  obtain ⟨k, hk, rfl, hbe⟩ := hrel
                  by_cases hlt : k < 6
                  · obtain ⟨p, hp6, hpn, hpv⟩ := hF7.out k hlt
                    have hNG : ns[k]'(by have := hN6.out; omega) = (p : Int) := by rw [← hpn, List.getD_eq_getElem?_getD, List.getElem?_eq_getElem (by have := hN6.out; omega)]; rfl
                    have c1 := (hbe.cell (p := ⟨nb, no + k, none⟩) hNB2.out).trans (hNC2.out k (by have := hN6.out; omega))
                    rw [hNG] at c1
                    have c2 := (hbe.cell (p := ⟨eb, eo + k, none⟩) hEB.out.2).trans (hEC.out k (by have := hrx.out; omega))
                    have c3 := (hbe.cell (p := ⟨fb, fo + p, none⟩) hFB.out.2).trans (hFC.out p (by have := hF6.out; omega))
                    have hRG : (runL xa rs)[k]'(by have := hrx.out; omega) = (runL xa rs).getD k 0 := by rw [List.getD_eq_getElem?_getD, List.getElem?_eq_getElem (by have := hrx.out; omega)]; rfl
                    have hRF : (runL (renR xa ns) (mvN ns rs 6))[p]'(by have := hF6.out; omega) = (runL (renR xa ns) (mvN ns rs 6)).getD p 0 := by rw [List.getD_eq_getElem?_getD, List.getElem?_eq_getElem (by have := hF6.out; omega)]; rfl
                    rw [hRG] at c2
                    rw [hRF, hpv] at c3
                    have hBE := Lib.hid hbe
                    clear hbe hRG hRF hNG hpv hpn
                    generalize (runL xa rs).getD k 0 = rv at *
                    have i1 : (k : Int) < 6 := by omega
                    have i2 : (0 : Int) ≤ (k : Int) := by omega
                    have i3 : (p : Int) < 6 := by omega
                    have i4 : (0 : Int) ≤ (p : Int) := by omega
                    go_wp2_with (fail)
                    go_quiet (fail)
                    go_wp2
                    go_roundw
                    case rel => exact ⟨k + 1, by omega, by go_num, below_drewD hBE.out _⟩
                    case measure => simp [intOf]; omega
                  · obtain rfl : k = 6 := by omega
                    have hBB := Lib.hid (hB.out.trans (hbe.mono hB.out.size))
                    clear hbe
                    go_wp2
                    go_ret
                    exact ⟨rfl, hBB.out⟩
        · obtain ⟨x0, x1, x2, x3, x4⟩ := XB.cells h_x.out
          simp only at x0 x1 x2 x3 x4
          obtain ⟨y0, y1, y2, y3, y4⟩ := XB.cells h_y.out
          simp only at y0 y1 y2 y3 y4
          have hq9 := iAreIndependent_any ⟨op', d', a', b', m'⟩ ⟨op, d, a, b, m⟩ w18
          rw [indR_comm, hU.out, Bool.and_comm, hI.out] at hq9
          have H := Lib.hid hq9
          clear hq9
          go_wp2_with (fail)
          clear x0 x1 x2 x3 x4
          clear y0 y1 y2 y3 y4
          refine (H.out).mono ?_
          rintro e w19 ⟨rfl, hbe⟩
          replace h_a := Lib.hid (h_a.out.upD hbe)
          replace h_n := Lib.hid (h_n.out.upD hbe)
          replace h_o := Lib.hid (h_o.out.upD hbe)
          replace h_s := Lib.hid (h_s.out.upD hbe)
          replace h_t := Lib.hid (h_t.out.upD hbe)
          replace h_x := Lib.hid (h_x.out.upD hbe)
          replace h_y := Lib.hid (h_y.out.upD hbe)
          replace h_g := Lib.hid (h_g.out.upD hbe)
          replace hB := Lib.hid (hB.out.trans (hbe.mono hB.out.size))
          clear hbe H
          cases J
          · go_wp2
            go_ret
            exact ⟨rfl, hB.out⟩
          · clear h_s
            clear h_t
            clear h_x
            clear h_y
            have hFc := Lib.hid (ren_facts hJ.out hG6.out hGb.out)
            have hmk : ∀ W : World, (Instr.makeSlice 27 (.int .i64 6) (.int .i64 6)).run Try.prog W = .ok (.slice (some ⟨W.heap.size, 0, none⟩) 6 6) (W.alloc (.cells (intCells [0, 0, 0, 0, 0, 0]) 3)) := fun W => run_make_ints 6 (by omega) W
            obtain ⟨nb, no, rfl, hnb, hnc⟩ := h_n.out (by have := hN6.out; omega)
            have hgc := h_g.out (by have := hG6.out; omega)
            obtain ⟨gb, go, hge, hgb, hgc⟩ := hgc
            injection hge with hge; injection hge with hge1 hge2; subst hge1; subst hge2
            have hNC := Lib.hid hnc
            have hGC := Lib.hid hgc
            have hNB := Lib.hid hnb
            have hGB := Lib.hid hgb
            clear hnc hgc hnb hgb
            rw [hN6.out]
            go_wp2
            go_loopw [209] (fun i wr => ∃ k : Nat, k ≤ 6 ∧ i = .int .i64 k ∧ IB wr w19.heap.size 3 (mvN ns rs k) ∧ Below w19.heap.size w19 wr) (fun i _ => 6 - (intOf i).toNat)
            case atStart => exact ⟨0, Nat.zero_le _, rfl, heap_alloc_new w19 _, (Below.refl _ _).alloc (Nat.le_refl _) _⟩
            case round =>
              obtain ⟨k, hk, rfl, hib, hbe⟩ := hrel
              clear hmk
              by_cases hlt : k < 6
              · obtain ⟨p, hp6, hpn, hpv⟩ := hFc.out.2.2.2.2.2.2 k hlt
                have hNG : ns[k]'(by have := hN6.out; omega) = (p : Int) := by rw [← hpn, List.getD_eq_getElem?_getD, List.getElem?_eq_getElem (by have := hN6.out; omega)]; rfl
                have hRG : rs[k]'(by have := hG6.out; omega) = rs.getD k 0 := by rw [List.getD_eq_getElem?_getD, List.getElem?_eq_getElem (by have := hG6.out; omega)]; rfl
                have c1 := (hbe.cell (p := ⟨nb, no + k, none⟩) hNB.out.2).trans (hNC.out k (by have := hN6.out; omega))
                rw [hNG] at c1
                have c2 := (hbe.cell (p := ⟨w12.heap.size, 0 + k, none⟩) hGB.out.2).trans (hGC.out k (by have := hG6.out; omega))
                rw [hRG, Nat.zero_add] at c2
                have hml := mvN_len ns rs k
                have c3 := hib.cell p (by rw [hml]; omega)
                have f3 := hib.frozen p
                generalize (mvN ns rs k)[p]'(by rw [hml]; omega) = old at *
                have hI2 := Lib.hid (hib.set p (rs.getD k 0))
                have hS := mvN_succ ns rs k
                rw [hpn, Int.toNat_natCast] at hS
                rw [← hS] at hI2
                have hB2 := Lib.hid (hbe.setCell (p := ⟨w19.heap.size, p, none⟩) (Nat.le_refl _) (.int .i64 (rs.getD k 0)))
                clear hib hbe hS hpv hpn hNG hRG hml
                generalize rs.getD k 0 = rv at *
                have i1 : (k : Int) < 6 := by omega
                have i2 : (0 : Int) ≤ (k : Int) := by omega
                have i3 : (p : Int) < 6 := by omega
                have i4 : (0 : Int) ≤ (p : Int) := by omega
                go_wp2
                go_roundw
                case rel => exact ⟨k + 1, by omega, by go_num, hI2.out, hB2.out⟩
                case measure => simp [intOf]; omega
              · obtain rfl : k = 6 := by omega
                clear h_n
                have hNC2 := Lib.hid fun (k : Nat) (hk : k < ns.length) => (hbe.cell (p := ⟨nb, no + k, none⟩) hNB.out.2).trans (hNC.out k hk)
                have hNB2 := Lib.hid (Nat.lt_of_lt_of_le hNB.out.2 hbe.size)
                replace h_a := Lib.hid (h_a.out.upD hbe)
                replace h_o := Lib.hid (h_o.out.upD hbe)
                replace h_g := Lib.hid (h_g.out.upD hbe)
                replace hB := Lib.hid (hB.out.trans (hbe.mono hB.out.size))
                have h_m := Lib.hid ((IB.toIS hib).more (Nat.zero_le _) (IB.lt hib) : IS wr 0 wr.heap.size (some ⟨w19.heap.size, 0, none⟩) (mvN ns rs 6))
                clear hib hbe hNC hNB hGC hGB
                generalize hW20 : wr = w20 at *
                clear hW20
                obtain ⟨f1, f2, f3, f4, f5, f6, f7⟩ := hFc.out
                obtain ⟨u1, u2⟩ := run_yes f1 hGr.out
                obtain ⟨u3, u4⟩ := run_yes f2 f3
                have hF7 := Lib.hid f7
                have hF6 := Lib.hid f6
                have hrx : Hid ((runL xa rs).length = 6) := by unfold Hid; rw [runL_len, hG6.out]
                clear f7 f6 hFc
                have hq9 := iRunCode_any 0 w20.heap.size Aa ca xa 0 w20.heap.size (some ⟨w12.heap.size, 0, none⟩) 6 rs w20 (by omega) h_a.out (Nat.le_refl _) (by have := hG6.out; omega) h_g.out (Nat.le_refl _)
                rw [hG6.out] at hq9
                rw [u1] at hq9
                rw [u2] at hq9
                have H := Lib.hid hq9
                clear hq9
                go_wp2_with (fail)
                refine (H.out).mono ?_
                rintro e w21 ⟨Ae, ce, rfl, oe, hbe⟩
                replace h_a := Lib.hid (h_a.out.upD hbe)
                replace h_o := Lib.hid (h_o.out.upD hbe)
                replace h_g := Lib.hid (h_g.out.upD hbe)
                replace h_m := Lib.hid (h_m.out.upD hbe)
                replace hB := Lib.hid (hB.out.trans (hbe.mono hB.out.size))
                have h_e := Lib.hid ((OW.rs oe).more (Nat.zero_le _) (Nat.le_refl _))
                replace hNC2 := Lib.hid fun (k : Nat) (hk : k < ns.length) => (hbe.cell (p := ⟨nb, no + k, none⟩) hNB2.out).trans (hNC2.out k hk)
                replace hNB2 := Lib.hid (Nat.lt_of_lt_of_le hNB2.out hbe.size)
                clear hbe H
                clear oe
                have hq9 := iRunCode_any 0 w21.heap.size Ao co (renR xa ns) 0 w21.heap.size (some ⟨w19.heap.size, 0, none⟩) 6 (mvN ns rs 6) w21 hrl.out h_o.out (Nat.le_refl _) (by rw [f4]; omega) h_m.out (Nat.le_refl _)
                rw [f4] at hq9
                rw [u3] at hq9
                rw [u4] at hq9
                have H := Lib.hid hq9
                clear hq9
                go_wp2_with (fail)
                refine (H.out).mono ?_
                rintro e w22 ⟨Af, cf, rfl, of, hbe⟩
                replace h_a := Lib.hid (h_a.out.upD hbe)
                replace h_o := Lib.hid (h_o.out.upD hbe)
                replace h_g := Lib.hid (h_g.out.upD hbe)
                replace h_m := Lib.hid (h_m.out.upD hbe)
                replace h_e := Lib.hid (h_e.out.upD hbe)
                replace hB := Lib.hid (hB.out.trans (hbe.mono hB.out.size))
                have h_f := Lib.hid ((OW.rs of).more (Nat.zero_le _) (Nat.le_refl _))
                replace hNC2 := Lib.hid fun (k : Nat) (hk : k < ns.length) => (hbe.cell (p := ⟨nb, no + k, none⟩) hNB2.out).trans (hNC2.out k hk)
                replace hNB2 := Lib.hid (Nat.lt_of_lt_of_le hNB2.out hbe.size)
                clear hbe H
                clear of
                have hq9 := iCodeCost_any 0 w22.heap.size Aa ca xa w22 (by omega) h_a.out (Nat.le_refl _)
                rw [f1] at hq9
                have H := Lib.hid hq9
                clear hq9
                go_wp2_with (fail)
                refine (H.out).mono ?_
                rintro e w23 ⟨rfl, hbe⟩
                replace h_a := Lib.hid (h_a.out.upD hbe)
                replace h_o := Lib.hid (h_o.out.upD hbe)
                replace h_g := Lib.hid (h_g.out.upD hbe)
                replace h_m := Lib.hid (h_m.out.upD hbe)
                replace h_e := Lib.hid (h_e.out.upD hbe)
                replace h_f := Lib.hid (h_f.out.upD hbe)
                replace hB := Lib.hid (hB.out.trans (hbe.mono hB.out.size))
                replace hNC2 := Lib.hid fun (k : Nat) (hk : k < ns.length) => (hbe.cell (p := ⟨nb, no + k, none⟩) hNB2.out).trans (hNC2.out k hk)
                replace hNB2 := Lib.hid (Nat.lt_of_lt_of_le hNB2.out hbe.size)
                clear hbe H
                have hq9 := iCodeCost_any 0 w23.heap.size Ao co (renR xa ns) w23 hrl.out h_o.out (Nat.le_refl _)
                rw [f2] at hq9
                rw [f5] at hq9
                have H := Lib.hid hq9
                clear hq9
                go_wp2_with (fail)
                refine (H.out).mono ?_
                rintro e w24 ⟨rfl, hbe⟩
                replace h_a := Lib.hid (h_a.out.upD hbe)
                replace h_o := Lib.hid (h_o.out.upD hbe)
                replace h_g := Lib.hid (h_g.out.upD hbe)
                replace h_m := Lib.hid (h_m.out.upD hbe)
                replace h_e := Lib.hid (h_e.out.upD hbe)
                replace h_f := Lib.hid (h_f.out.upD hbe)
                replace hB := Lib.hid (hB.out.trans (hbe.mono hB.out.size))
                replace hNC2 := Lib.hid fun (k : Nat) (hk : k < ns.length) => (hbe.cell (p := ⟨nb, no + k, none⟩) hNB2.out).trans (hNC2.out k hk)
                replace hNB2 := Lib.hid (Nat.lt_of_lt_of_le hNB2.out hbe.size)
                clear hbe H
                obtain ⟨eb, eo, rfl, heb, hec⟩ := h_e.out (by have := hrx.out; omega)
                obtain ⟨fb, fo, rfl, hfb, hfc⟩ := h_f.out (by have := hF6.out; omega)
                have hEC := Lib.hid hec
                have hFC := Lib.hid hfc
                have hEB := Lib.hid heb
                have hFB := Lib.hid hfb
                clear hec hfc heb hfb h_e h_f h_a h_o h_g h_m f1 f2 f3 f4 f5 u1 u2 u3 u4
                rw [hrx.out, hF6.out]
                go_wp2
                go_loopw [265] (fun i wr => ∃ k : Nat, k ≤ 6 ∧ i = .int .i64 k ∧ Below w24.heap.size w24 wr) (fun i _ => 6 - (intOf i).toNat)
                case atStart => exact ⟨0, Nat.zero_le _, rfl, Below.refl _ _⟩
                case round =>
                  obtain ⟨k, hk, rfl, hbe⟩ := hrel
                  by_cases hlt : k < 6
                  · obtain ⟨p, hp6, hpn, hpv⟩ := hF7.out k hlt
                    have hNG : ns[k]'(by have := hN6.out; omega) = (p : Int) := by rw [← hpn, List.getD_eq_getElem?_getD, List.getElem?_eq_getElem (by have := hN6.out; omega)]; rfl
                    have c1 := (hbe.cell (p := ⟨nb, no + k, none⟩) hNB2.out).trans (hNC2.out k (by have := hN6.out; omega))
                    rw [hNG] at c1
                    have c2 := (hbe.cell (p := ⟨eb, eo + k, none⟩) hEB.out.2).trans (hEC.out k (by have := hrx.out; omega))
                    have c3 := (hbe.cell (p := ⟨fb, fo + p, none⟩) hFB.out.2).trans (hFC.out p (by have := hF6.out; omega))
                    have hRG : (runL xa rs)[k]'(by have := hrx.out; omega) = (runL xa rs).getD k 0 := by rw [List.getD_eq_getElem?_getD, List.getElem?_eq_getElem (by have := hrx.out; omega)]; rfl
                    have hRF : (runL (renR xa ns) (mvN ns rs 6))[p]'(by have := hF6.out; omega) = (runL (renR xa ns) (mvN ns rs 6)).getD p 0 := by rw [List.getD_eq_getElem?_getD, List.getElem?_eq_getElem (by have := hF6.out; omega)]; rfl
                    rw [hRG] at c2
                    rw [hRF, hpv] at c3
                    have hBE := Lib.hid hbe
                    clear hbe hRG hRF hNG hpv hpn
                    generalize (runL xa rs).getD k 0 = rv at *
                    have i1 : (k : Int) < 6 := by omega
                    have i2 : (0 : Int) ≤ (k : Int) := by omega
                    have i3 : (p : Int) < 6 := by omega
                    have i4 : (0 : Int) ≤ (p : Int) := by omega
                    go_wp2_with (fail)
                    go_quiet (fail)
                    go_wp2
                    go_roundw
                    case rel => exact ⟨k + 1, by omega, by go_num, below_drewD hBE.out _⟩
                    case measure => simp [intOf]; omega
                  · obtain rfl : k = 6 := by omega
                    have hBB := Lib.hid (hB.out.trans (hbe.mono hB.out.size))
                    clear hbe
                    go_wp2
                    go_ret
                    exact ⟨rfl, hBB.out⟩
end Go.Proofs.Ytmhdijklindipaa

/- Arguments of the types []laws.Instr, laws.Instr and []int opened. -/
namespace Go.Proofs.Ytmhdijklindipaa
open Go.ChangeShapes Go.WideShapes Go.ChangeAt Go.RowKit Go.Deep
open Go.ChangeMaps (open_string shut_string)
set_option linter.unusedVariables false

theorem cellsStr : Try.prog.cellsOf 9 = 1 := by kernel_rfl
theorem cellsInt : Try.prog.cellsOf 3 = 1 := by kernel_rfl

theorem cell_lt_heap {w : World} {a : Addr} {v : Value} (h : w.cell? a = some v) : a.block < w.heap.size := by
  rcases Nat.lt_or_ge a.block w.heap.size with hlt | hge
  · exact hlt
  · unfold World.cell? at h; rw [Array.getElem?_eq_none hge] at h; simp at h

set_option maxRecDepth 100000 in
theorem ints_of_trod {H : Type} {enc : TypeId × Value → H} {w : World} {spare : Nat → Bool} {held : Bool} {A : Option Addr} {len cap : Nat} {d : DataW H} {p : List MemPlace}
    (h : DataW.Trod enc Try.prog w 0 spare held 27 (.slice A len cap) d p) :
    ∃ xs : List Int, xs.length = len ∧ IS w 0 w.heap.size A xs ∧ len ≤ 9223372036854775807 := by
  obtain ⟨fuel, hf⟩ := h
  rcases open_slice Try.underlying27 hf with ⟨hcs, _⟩ | ⟨a, l, c, m, n, D, Pl, hcs, _, hl, hm, hmm, _, hi⟩
  · simp [Value.cells] at hcs
    obtain ⟨rfl, rfl, rfl⟩ := hcs
    exact ⟨[], rfl, fun h => absurd h (by simp), by omega⟩
  · simp [Value.cells] at hcs
    obtain ⟨rfl, rfl, rfl⟩ := hcs
    have hlm : len ≤ m := by rw [hmm]; split <;> omega
    have hex : ∀ i, i < len → ∃ x : Int, w.cell? (a.add i) = some (.int .i64 x) := by
      intro i hil
      obtain ⟨cs', hc, ht⟩ := hi i (by omega)
      rw [cellsInt, Nat.mul_one] at hc
      obtain ⟨x, hx, _, _⟩ := DataW.trod_int Try.underlying3 ht
      obtain ⟨_, _, hat⟩ := World.cells?_some hc
      have := hat 0 (by omega)
      rw [add_add, hx] at this
      exact ⟨x, by simpa using this⟩
    obtain ⟨f, hf2⟩ := Classical.axiomOfChoice (fun i : {i // i < len} => hex i.1 i.2)
    have hget : ∀ i (h : i < (List.ofFn fun i : Fin len => f ⟨i.1, i.2⟩).length), (List.ofFn fun i : Fin len => f ⟨i.1, i.2⟩)[i] = f ⟨i, by simpa using h⟩ := fun i h => by simp
    refine ⟨List.ofFn fun i : Fin len => f ⟨i.1, i.2⟩, by simp, ?_, by unfold maxLen at hm; omega⟩
    intro hpos
    have hpos' : 0 < len := by simpa using hpos
    have h0 := hf2 ⟨0, hpos'⟩
    obtain ⟨b, o, spot⟩ := a
    have hspot : spot = none := by have := World.cell?_spot h0; simpa [Addr.add] using this
    subst hspot
    have hadd : ∀ k, (⟨b, o, none⟩ : Addr).add k = ⟨b, o + k, none⟩ := fun k => by simp [Addr.add]
    refine ⟨b, o, rfl, ⟨Nat.zero_le _, ?_⟩, fun i hi => ?_⟩
    · rw [hadd] at h0
      exact cell_lt_heap h0
    · have hi' : i < len := by simpa using hi
      rw [hget i hi]
      have := hf2 ⟨i, hi'⟩
      simp only [hadd] at this
      exact this
end Go.Proofs.Ytmhdijklindipaa

/- A []byte argument opened. -/
namespace Go.Proofs.Ytmhdijklindipaa
open Go.ChangeShapes Go.WideShapes Go.ChangeAt Go.RowKit Go.Deep
set_option linter.unusedVariables false
theorem cellsByte : Try.prog.cellsOf 5 = 1 := by kernel_rfl
theorem bytes_of_trod {H : Type} {enc : TypeId × Value → H} {w : World} {spare : Nat → Bool} {held : Bool} {A : Option Addr} {len cap : Nat} {d : DataW H} {p : List MemPlace}
    (h : DataW.Trod enc Try.prog w 0 spare held 22 (.slice A len cap) d p) :
    ∃ xs : List Int, xs.length = len ∧ BY w w.heap.size A xs ∧ (∀ x ∈ xs, 0 ≤ x ∧ x ≤ 255) ∧ len ≤ 9223372036854775807 := by
  obtain ⟨fuel, hf⟩ := h
  rcases open_slice Try.underlying22 hf with ⟨hcs, _⟩ | ⟨a, l, c, m, n, D, Pl, hcs, _, hl, hm, hmm, _, hi⟩
  · simp [Value.cells] at hcs
    obtain ⟨rfl, rfl, rfl⟩ := hcs
    exact ⟨[], rfl, fun h => absurd h (by simp), fun x hx => by simp at hx, by omega⟩
  · simp [Value.cells] at hcs
    obtain ⟨rfl, rfl, rfl⟩ := hcs
    have hlm : len ≤ m := by rw [hmm]; split <;> omega
    have hex : ∀ i, i < len → ∃ x : Int, w.cell? (a.add i) = some (.int .u8 x) ∧ 0 ≤ x ∧ x ≤ 255 := by
      intro i hil
      obtain ⟨cs', hc, ht⟩ := hi i (by omega)
      rw [cellsByte, Nat.mul_one] at hc
      obtain ⟨x, hx, hb, hz⟩ := DataW.trod_int Try.underlying5 ht
      obtain ⟨_, _, hat⟩ := World.cells?_some hc
      have := hat 0 (by omega)
      rw [add_add, hx] at this
      refine ⟨x, by simpa using this, ?_⟩
      have hz2 : (decide (IntKind.u8.min ≤ x) && decide (x ≤ IntKind.u8.max)) = true := hz
      rw [show IntKind.u8.min = 0 from rfl, show IntKind.u8.max = 255 from rfl, Bool.and_eq_true, decide_eq_true_iff, decide_eq_true_iff] at hz2
      exact hz2
    obtain ⟨f, hf2⟩ := Classical.axiomOfChoice (fun i : {i // i < len} => hex i.1 i.2)
    have hget : ∀ i (h : i < (List.ofFn fun i : Fin len => f ⟨i.1, i.2⟩).length), (List.ofFn fun i : Fin len => f ⟨i.1, i.2⟩)[i] = f ⟨i, by simpa using h⟩ := fun i h => by simp
    refine ⟨List.ofFn fun i : Fin len => f ⟨i.1, i.2⟩, by simp, ?_, ?_, by unfold maxLen at hm; omega⟩
    · intro hpos
      have hpos' : 0 < len := by simpa using hpos
      have h0 := (hf2 ⟨0, hpos'⟩).1
      obtain ⟨b, o, spot⟩ := a
      have hspot : spot = none := by have := World.cell?_spot h0; simpa [Addr.add] using this
      subst hspot
      have hadd : ∀ k, (⟨b, o, none⟩ : Addr).add k = ⟨b, o + k, none⟩ := fun k => by simp [Addr.add]
      refine ⟨b, o, rfl, ?_, fun i hi => ?_⟩
      · rw [hadd] at h0
        exact cell_lt_heap h0
      · have hi' : i < len := by simpa using hi
        rw [hget i hi]
        have := (hf2 ⟨i, hi'⟩).1
        simp only [hadd] at this
        exact this
    · intro x hx
      rw [List.mem_ofFn] at hx
      obtain ⟨i, rfl⟩ := hx
      exact (hf2 ⟨i.1, i.2⟩).2
end Go.Proofs.Ytmhdijklindipaa
