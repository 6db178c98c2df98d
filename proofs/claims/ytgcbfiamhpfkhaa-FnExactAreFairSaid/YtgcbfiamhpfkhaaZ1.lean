/- Texts of this proof, one behind the other: GJ, GW, AC, AD, OC, ON. -/
import Derived.Test.YtgcbfiamhpfkhaaZ3
import Derived.Test.YtgcbfiamhpfkhaaZ2
import Derived.Test.YtgcbfiamhpfkhaaZ6
import Derived.WalkKit
import Derived.WalkSpells
import Derived.WalkLawsBesides
import Derived.Lib.Hide
import Derived.RangeFuncNested
import Derived.RangeFuncBound
import Derived.RangeFuncCalls
import Derived.RangeFuncLeaves
import Derived.RangeFuncBox
import Derived.Shelf.Abstract
import Derived.Shelf.RegionOpen
import Derived.OwnWalkIn
import Derived.TacticsInMore
import Derived.LoopNIn
import Derived.LoopIn
import Derived.Maps.OwnIn
import Derived.Deep.RegionHeld3
import Derived.Test.YtgcbfiamhpfkhaaZ14
import Derived.ProofKit
import Derived.OpenShut
import Derived.ShutString
import Derived.ChangeOld
import Derived.Below
import Derived.Deep.Slices
import Derived.Deep.Fields
import Derived.Test.YtgcbfiamhpfkhaaKMNode
/- The state of a cover laid, place by place: plain. -/
namespace Go.Proofs.Ytgcbfiamhpfkhaa
open Go.RowKit
set_option linter.unusedVariables false

theorem getDI_set {xs : List Int} (i j : Nat) (x : Int) (hi : i < xs.length) : (xs.set i x).getD j 0 = if i = j then x else xs.getD j 0 := by
  rw [List.getD_eq_getElem?_getD, List.getD_eq_getElem?_getD, List.getElem?_set]
  split
  · first | rfl | (rw [if_pos hi]; rfl)
  · rfl
theorem foldSet_get : ∀ (ps : List Int) (xs : List Int) (i : Nat), (∀ p ∈ ps, p.toNat < xs.length) → (ps.foldl (fun c p => c.set p.toNat (-2)) xs).getD i 0 = if (∃ p ∈ ps, p.toNat = i) then -2 else xs.getD i 0
  | [], xs, i, _ => by simp
  | p :: ps, xs, i, h => by
    rw [List.foldl_cons, foldSet_get ps (xs.set p.toNat (-2)) i (fun q hq => by rw [List.length_set]; exact h q (by simp [hq])), getDI_set _ _ _ (h p (by simp))]
    by_cases h1 : ∃ q ∈ ps, q.toNat = i
    · rw [if_pos h1, if_pos (by obtain ⟨q, hq, e⟩ := h1; exact ⟨q, by simp [hq], e⟩)]
    · rw [if_neg h1]
      by_cases h2 : p.toNat = i
      · rw [if_pos h2, if_pos ⟨p, by simp, h2⟩]
      · rw [if_neg h2, if_neg]
        rintro ⟨q, hq, e⟩
        rcases List.mem_cons.1 hq with rfl | hq
        · exact h2 e
        · exact h1 ⟨q, hq, e⟩
theorem layL_get {cs : List Int} {k : Nat} {x : Ti} (hk : k < cs.length) (hp : ∀ p ∈ x.ps, 0 ≤ p ∧ p < (k : Int)) (i : Nat) : (layL cs k x).getD i 0 = if (∃ p ∈ x.ps, p.toNat = i) then -2 else if k = i then x.num else cs.getD i 0 := by
  unfold layL layTo
  rw [List.take_length, foldSet_get _ _ _ (fun p h => by rw [List.length_set]; have := hp p h; omega), getDI_set _ _ _ hk]
theorem layL_ge {cs : List Int} {k : Nat} {x : Ti} (hk : k < cs.length) (hp : ∀ p ∈ x.ps, 0 ≤ p ∧ p < (k : Int)) {i : Nat} (h : k < i) : (layL cs k x).getD i 0 = cs.getD i 0 := by
  rw [layL_get hk hp, if_neg, if_neg (by omega)]
  rintro ⟨p, h1, e⟩
  have := hp p h1
  omega
theorem layL_at {cs : List Int} {k : Nat} {x : Ti} (hk : k < cs.length) (hp : ∀ p ∈ x.ps, 0 ≤ p ∧ p < (k : Int)) : (layL cs k x).getD k 0 = x.num := by
  rw [layL_get hk hp, if_neg, if_pos rfl]
  rintro ⟨p, h1, e⟩
  have := hp p h1
  omega
theorem layL_lt {cs : List Int} {k : Nat} {x : Ti} (hk : k < cs.length) (hp : ∀ p ∈ x.ps, 0 ≤ p ∧ p < (k : Int)) {i : Nat} (h : i < k) : (layL cs k x).getD i 0 = -2 ∨ (layL cs k x).getD i 0 = cs.getD i 0 := by
  rw [layL_get hk hp]
  split
  · exact .inl rfl
  · rw [if_neg (by omega)]; exact .inr rfl
/-- The tile of a place. -/
def tD (es : List Nd) (nums : List Int) (i : Nat) : Ti := (tOf es (i : Int) (nums.getD i 0)).getD noTi
structure CvInv (es : List Nd) (nums : List Int) (j : Nat) (cs : List Int) (out : List Ti) : Prop where
  lo : ∀ i, i < es.length - j → cs.getD i 0 = -1 ∨ cs.getD i 0 = -2
  hi : ∀ i, es.length - j ≤ i → i < es.length → cs.getD i 0 = -1 ∨ (cs.getD i 0 = nums.getD i 0 ∧ ∃ x, tOf es (i : Int) (nums.getD i 0) = some x)
  out : out.reverse = ((List.range' (es.length - j) j).filter (fun i => decide (0 ≤ cs.getD i 0))).map (tD es nums)
theorem cvSt_inv {es : List Nd} {nums : List Int} : ∀ {j : Nat} {cs : List Int} {out : List Ti}, j ≤ es.length → cvSt es nums j = some (cs, out) → CvInv es nums j cs out
  | 0, cs, out, hj, h => by
    simp only [cvSt, Option.some.injEq, Prod.mk.injEq] at h
    obtain ⟨rfl, rfl⟩ := h
    refine ⟨fun i hi => ?_, fun i h1 h2 => by omega, by simp⟩
    unfold opn
    rw [getDI_set _ _ _ (by simp; omega)]
    split
    · exact .inr rfl
    · left; rw [List.getD_eq_getElem?_getD, List.getElem?_replicate, if_pos (by omega)]; rfl
  | j + 1, cs, out, hj, h => by
    simp only [cvSt] at h
    rw [Option.bind_eq_some_iff] at h
    obtain ⟨⟨cs0, out0⟩, h0, h1⟩ := h
    have ih := cvSt_inv (by omega) h0
    have hl := (cvSt_len h0).1
    obtain ⟨k, hk⟩ : ∃ k, k = es.length - 1 - j := ⟨_, rfl⟩
    rw [← hk] at h1
    have hkn : k < cs0.length := by omega
    have e1 : es.length - (j + 1) = k := by omega
    have e2 : es.length - j = k + 1 := by omega
    have ih1 := ih.lo; have ih2 := ih.hi; have ih3 := ih.out
    rw [e2] at ih1 ih2 ih3
    unfold cvNext at h1
    split at h1
    · rename_i hc
      rw [Option.map_eq_some_iff] at h1
      obtain ⟨x, hx0, hx⟩ := h1
      injection hx with e3 e4
      subst e3; subst e4
      have hp := (tOf_ps hx0).1
      have hnum := tOf_num hx0
      have hb := tOf_bd hx0
      unfold TiB at hb
      have hD : tD es nums k = x := by unfold tD; rw [hx0]; rfl
      refine ⟨?_, ?_, ?_⟩
      · rw [e1]
        intro i hi
        rcases layL_lt hkn hp hi with e | e
        · exact .inr e
        · rw [e]; exact ih1 i (by omega)
      · rw [e1]
        intro i h1 h2
        rcases Nat.lt_or_ge k i with h | h
        · rw [layL_ge hkn hp h]; exact ih2 i (by omega) h2
        · obtain rfl : i = k := by omega
          rw [layL_at hkn hp]
          exact .inr ⟨hnum, x, hx0⟩
      · rw [e1, List.range'_succ, List.filter_cons, if_pos (by rw [layL_at hkn hp]; simp; omega), List.map_cons, hD, List.reverse_append, List.reverse_singleton, List.singleton_append, ih3]
        congr 2
        refine List.filter_congr fun i hi => ?_
        rw [layL_ge hkn hp (by have := (List.mem_range'_1.1 hi).1; omega)]
    · rename_i hc
      injection h1 with h1; injection h1 with e3 e4
      subst e3; subst e4
      have hm1 : cs0.getD k 0 = -1 := (ih1 k (by omega)).resolve_right hc
      refine ⟨?_, ?_, ?_⟩
      · rw [e1]; exact fun i hi => ih1 i (by omega)
      · rw [e1]
        intro i h1 h2
        rcases Nat.lt_or_ge k i with h | h
        · exact ih2 i (by omega) h2
        · obtain rfl : i = k := by omega
          exact .inl hm1
      · rw [e1, List.range'_succ, List.filter_cons, if_neg (by rw [hm1]; simp), ih3]
/-- The tiles of the places below k, in order. -/
def mst (es : List Nd) (nums : List Int) (k : Nat) : List Ti := ((List.range k).filter (fun i => decide (0 ≤ nums.getD i 0))).map (tD es nums)
theorem mst_zero (es : List Nd) (nums : List Int) : mst es nums 0 = [] := rfl
theorem mst_skip {es : List Nd} {nums : List Int} {k : Nat} (h : ¬ 0 ≤ nums.getD k 0) : mst es nums (k + 1) = mst es nums k := by
  unfold mst; rw [List.range_succ, List.filter_append, List.filter_cons, if_neg (by simpa using h)]; simp
theorem mst_take {es : List Nd} {nums : List Int} {k : Nat} (h : 0 ≤ nums.getD k 0) : mst es nums (k + 1) = mst es nums k ++ [tD es nums k] := by
  unfold mst; rw [List.range_succ, List.filter_append, List.filter_cons, if_pos (by simpa using h)]; simp
theorem mst_len (es : List Nd) (nums : List Int) (k : Nat) : (mst es nums k).length ≤ k := by
  unfold mst; rw [List.length_map]; exact Nat.le_trans (List.length_filter_le _ _) (by simp)
/-- The bits of the model. -/
def ndB (cs : List Int) : List Bool := cs.map (fun v => v != -1)
theorem ndB_len (cs : List Int) : (ndB cs).length = cs.length := by simp [ndB]
theorem ndB_get {cs : List Int} {i : Nat} (h : i < cs.length) : (ndB cs).getD i false = (cs.getD i 0 != -1) := by
  rw [List.getD_eq_getElem?_getD, List.getD_eq_getElem?_getD, List.getElem?_eq_getElem h, List.getElem?_eq_getElem (by rw [ndB_len]; exact h)]; simp [ndB]
theorem ndB_set (cs : List Int) (i : Nat) (x : Int) : ndB (cs.set i x) = (ndB cs).set i (x != -1) := by simp [ndB, List.map_set]
theorem ndB_opn {n : Nat} : ndB (opn n) = (List.replicate n false).set (n - 1) true := by
  unfold opn; rw [ndB_set]; simp [ndB]
theorem ndB_lay0 {cs : List Int} {k : Nat} {x : Int} (hk : k < cs.length) (h : cs.getD k 0 = -2) (hx : 0 ≤ x) : ndB (cs.set k x) = ndB cs := by
  rw [ndB_set, show (x != -1) = true by simp; omega]
  refine List.ext_getElem (by simp) fun i h1 h2 => ?_
  rw [List.getElem_set]
  split
  · rename_i e
    subst e
    have := ndB_get hk
    rw [h, List.getD_eq_getElem?_getD, List.getElem?_eq_getElem h2] at this
    exact this.symm
  · rfl
/-- A state is the numbers where the places left alone bear none. -/
theorem cv_eq {es : List Nd} {nums cs : List Int} {out : List Ti} (hn : nums.length = es.length) (h : cvSt es nums es.length = some (cs, out)) : cs = nums ↔ ∀ i, i < es.length → cs.getD i 0 = -1 → nums.getD i 0 = -1 := by
  have hI := (cvSt_inv (Nat.le_refl _) h).hi
  have hl := (cvSt_len h).1
  rw [Nat.sub_self] at hI
  constructor
  · rintro rfl i _ e; exact e
  · intro ha
    refine List.ext_getElem (by omega) fun i h1 h2 => ?_
    rw [← getD_get h1, ← getD_get h2]
    rcases hI i (Nat.zero_le _) (by omega) with e | e
    · rw [e, ha i (by omega) e]
    · exact e.1
theorem tocR_some {es : List Nd} {nums : List Int} {out : List Ti} (h : tocR es nums = some out) : treeR es = true ∧ nums.length = es.length ∧ cvSt es nums es.length = some (nums, out) := by
  unfold tocR at h
  split at h
  · rename_i ht
    cases hc : cvSt es nums es.length with
    | none => rw [hc] at h; cases h
    | some s =>
      obtain ⟨cs, o⟩ := s
      rw [hc] at h
      simp only at h
      split at h
      · rename_i e
        injection h with h; subst h; subst e
        exact ⟨ht.1, ht.2, rfl⟩
      · cases h
  · cases h
theorem tocR_mst {es : List Nd} {nums : List Int} {out : List Ti} (h : tocR es nums = some out) : out.reverse = mst es nums es.length ∧ ∀ i, i < es.length → 0 ≤ nums.getD i 0 → ∃ x, tOf es (i : Int) (nums.getD i 0) = some x := by
  obtain ⟨ht, hn, hc⟩ := tocR_some h
  have hI := cvSt_inv (Nat.le_refl _) hc
  have h3 := hI.out
  have h2 := hI.hi
  rw [Nat.sub_self] at h2 h3
  refine ⟨by rw [h3, mst, List.range_eq_range'], fun i hi h0 => ?_⟩
  rcases h2 i (Nat.zero_le _) hi with e | e
  · omega
  · exact e.2
theorem tocR_sum {es : List Nd} {nums : List Int} {out : List Ti} (h : tocR es nums = some out) : ccostR es nums = sumK (mst es nums es.length) := by
  unfold ccostR; rw [h, ← (tocR_mst h).1, sumK_reverse]; rfl
theorem tocR_uses {es : List Nd} {nums : List Int} {out : List Ti} (h : tocR es nums = some out) : tuseR es nums = usesL (mst es nums es.length) := by
  unfold tuseR; rw [h, ← (tocR_mst h).1, usesL_reverse]; rfl
theorem tocR_iff {es : List Nd} {nums : List Int} (ht : treeR es = true) (hn : nums.length = es.length) {cs : List Int} {out : List Ti} (h : cvSt es nums es.length = some (cs, out)) : (tocR es nums).isSome = decide (cs = nums) := by
  unfold tocR
  rw [if_pos ⟨ht, hn⟩, h]
  simp only
  split
  · rename_i e; rw [decide_eq_true e]; rfl
  · rename_i e; rw [decide_eq_false e]; rfl
end Go.Proofs.Ytgcbfiamhpfkhaa

/- Prices of the program. -/
namespace Go.Proofs.Ytgcbfiamhpfkhaa
open Go.RowKit
set_option linter.unusedVariables false
set_option maxRecDepth 100000

theorem wcTo_congr (b : Int) (cs ps : List Int) (f : Int → Int) (h : ∀ p ∈ ps, f p = cs.getD p.toNat 0) : ∀ k, (ps.take k).foldl (fun s p => wrap64 (s + f p)) b = wcTo b cs ps k := by
  intro k
  unfold wcTo
  have h' : ∀ p ∈ ps.take k, f p = cs.getD p.toNat 0 := fun p hp => h p (List.mem_of_mem_take hp)
  clear h
  generalize ps.take k = l at *
  induction l generalizing b with
  | nil => rfl
  | cons p l ih => rw [List.foldl_cons, List.foldl_cons, h' p (by simp)]; exact ih _ fun q hq => h' q (by simp [hq])
set_option maxHeartbeats 4000000 in
theorem costWith_any (L B b m n : Nat) (f : Int → Int) (cs : List Int) (r : Rt) (x : Ti) (w : World) (hr : RtOk w L B r x) (hB : B ≤ w.heap.size) (hp2 : x.ps.length ≤ 2) (hps : ∀ p ∈ x.ps, 0 ≤ p ∧ p < (n : Int)) (hn : n ≤ 24) (hm : MP w b m f) (hf : ∀ k : Nat, k < n → f (k : Int) = cs.getD k 0) :
    Calls Try.prog 63 #[.agg #[.int .i64 r.num, r.p, r.q, .int .i64 r.c], .map (some b)] w fun e w' => e = .returned (.int .i64 (wcT cs x)) ∧ Below w.heap.size w w' := by
  obtain ⟨PA, pc, QA, qc, rfl, hp, hq⟩ := hr.form
  have hR : Hid (wcT cs x = wcTo x.c cs x.ps x.ps.length) := rfl
  have hM := Lib.hid hm
  have hP := Lib.hid hp
  have hPs := Lib.hid hps
  have hF := Lib.hid hf
  clear hr hp hq hm hps hf
  generalize wcT cs x = R at *
  obtain ⟨xn, ps, ins, xc⟩ := x
  dsimp only at hR hP hPs hp2 ⊢
  go_enter Try.func63, Try.ntmps63
  have ba := (Below.refl w.heap.size w).alloc (Nat.le_refl _) (.cells #[.int .i64 xn, .slice PA ps.length pc, .slice QA ins.length qc, .int .i64 xc] 77)
  have hM1 := Lib.hid (hM.out.next ba)
  have hP1 := Lib.hid ((hP.out.below ba hB).rs)
  have hba := Lib.hid ba
  clear ba
  go_wp2_with (fail)
  generalize w.alloc (.cells #[.int .i64 xn, .slice PA ps.length pc, .slice QA ins.length qc, .int .i64 xc] 77) = W1 at *
  go_loop [5, 13] (fun cq q => ∃ t : Nat, t ≤ ps.length ∧ q = .int .i64 t ∧ cq = .int .i64 (wcTo xc cs ps t)) (fun _ q => ps.length - (intOf q).toNat)
  case atStart => exact ⟨0, Nat.zero_le _, rfl, rfl⟩
  case round =>
    obtain ⟨t, ht, rfl, rfl⟩ := hrel
    by_cases hltt : t < ps.length
    · obtain ⟨pb, po, rfl, _, hcc⟩ := hP1.out (by omega)
      have y1 := hcc t hltt
      have hpt := hPs.out ps[t] (List.getElem_mem _)
      have hS := Lib.hid (wcTo_succ xc cs hltt)
      clear hcc
      generalize ps[t] = pp at *
      obtain ⟨pn, rfl⟩ := Int.eq_ofNat_of_zero_le hpt.1
      have hl := hM1.out.look (i := (pn : Int)) (by omega) (by omega)
      rw [hF.out pn (by omega)] at hl
      rw [Int.toNat_natCast] at hS
      generalize cs.getD pn 0 = cp at *
      generalize wcTo xc cs ps t = wt at *
      go_wp2
      go_round
      case rel => exact ⟨t + 1, by omega, by go_num, by rw [hS.out]⟩
      case measure => simp [intOf]; omega
    · obtain rfl : t = ps.length := by omega
      generalize wcTo xc cs ps ps.length = wt at *
      go_wp2
      go_ret
      exact ⟨by rw [hR.out]; rfl, hba.out⟩

theorem wcTo_rng {b : Int} (cs ps : List Int) (h0 : 0 ≤ b) (h1 : b ≤ 4) : ∀ k, k ≤ ps.length → -9223372036854775808 ≤ wcTo b cs ps k ∧ wcTo b cs ps k ≤ 9223372036854775807
  | 0, _ => by rw [wcTo_zero]; omega
  | k + 1, h => by rw [wcTo_succ b cs (by omega : k < ps.length)]; unfold wrap64; omega
theorem wcT_wf (cs : List Int) {x : Ti} (h0 : 0 ≤ x.c) (h1 : x.c ≤ 4) : (Lit.int .i64 (wcT cs x)).wf = true := by
  have := wcTo_rng cs x.ps h0 h1 _ (Nat.le_refl _)
  exact wf_i64 this.1 this.2
theorem tsN_cb {es : List Nd} {k : Nat} (hk : k < es.length) : ∀ x ∈ tsN es k, 0 ≤ x.c ∧ x.c ≤ 4 := by
  intro x hx
  obtain ⟨n, _, _, hc, _⟩ := tsN_c hk hx
  rw [hc]; exact ctN_bd _ _
set_option maxHeartbeats 8000000 in
theorem leastCosts_any (L B : Nat) (A : Option Addr) (c : Nat) (es : List Nd) (w : World) (ht : treeR es = true) (hes : NS w L B A es) (hB : B ≤ w.heap.size) :
    Calls Try.prog 65 #[.slice A es.length c] w (fun e w' => ∃ b m f, e = .returned (.map (some b)) ∧ MP w' b m f ∧ (∀ k : Nat, k < es.length → f (k : Int) = (prTo es es.length).getD k 0) ∧ Below w.heap.size w w') := by
  have hg : good es = true := by unfold treeR at ht; simp only [Bool.and_eq_true] at ht; exact ht.1
  obtain ⟨hl1, hl24, hok⟩ := good_len hg
  have H2 := Lib.hid fun (k : Nat) (hk : k < es.length) (W : World) (hW : Below w.heap.size w W) => (show Calls Try.prog 62 #[.slice A es.length c, .int .i64 (k : Int)] W (TilesAre W (tsN es k)) from by rw [tsN_eq hk]; exact tilesOf_w L B A c es k hk W (hes.below hW hB) (Nat.le_trans hB hW.size) hl24 hok)
  have hPs := Lib.hid fun (k : Nat) (hk : k < es.length) => tsN_ps hok hk
  have hP2 := Lib.hid fun (k : Nat) => @tsN_ps2 es k
  have hCs := Lib.hid fun (k : Nat) (hk : k < es.length) => tsN_cb hk
  have hLn := Lib.hid fun (k : Nat) => (show (tsN es k).length ≤ 13 from tilesL_len _ _)
  have hSc := Lib.hid (prTo_next es)
  have hCl := Lib.hid (prTo_len es)
  have h00 := Lib.hid (prTo_zero es)
  clear ht hg hes hB hok
  generalize tsN es = TS at *
  generalize prTo es = CC at *
  generalize es.length = n at *
  have hmk := fun w => run_makeMap (P := Try.prog) 69 w
  have hM0 := Lib.hid (MP.made w)
  have b1 := Lib.hid ((Below.refl w.heap.size w).alloc (Nat.le_refl _) (.map #[] 0))
  go_enter Try.func65, Try.ntmps65
  go_wp2_with (fail)
  obtain ⟨b, hb0⟩ : ∃ b, b = w.heap.size := ⟨_, rfl⟩
  rw [← hb0]
  rw [← hb0] at hM0
  have hgw := Lib.hid (show w.heap.size ≤ b by omega)
  clear hb0 hmk
  generalize w.alloc (.map #[] 0) = W1 at *
  go_loopw [11] (fun q wr => ∃ k : Nat, k ≤ n ∧ q = .int .i64 k ∧ (∃ mm f, mm ≤ 14 * k ∧ MP wr b mm f ∧ ∀ i : Nat, i < n → f (i : Int) = (CC k).getD i 0) ∧ Below w.heap.size w wr) (fun q _ => n - (intOf q).toNat)
  case atStart => exact ⟨0, Nat.zero_le _, rfl, ⟨0, _, Nat.zero_le _, hM0.out, fun i hi => by rw [h00.out]; simp [zeros, hi]⟩, b1.out⟩
  case round =>
    obtain ⟨k, hk, rfl, ⟨mm, f, hmm, hmp, hff⟩, hbel⟩ := hrel
    have hMP := Lib.hid hmp
    have hFF := Lib.hid hff
    have hBL := Lib.hid hbel
    have hgl := hmp.lt
    clear hmp hbel hff
    by_cases hlt : k < n
    · obtain ⟨wo, hwo⟩ : ∃ wo : World, wo = wr := ⟨_, rfl⟩
      rw [← hwo] at hMP hBL hgl ⊢
      clear hwo
      have hki : (k : Int) < (n : Int) := by omega
      have hC := Lib.hid (H2.out k hlt)
      have hSk := Lib.hid (hSc.out k)
      have hps := Lib.hid (hPs.out k hlt)
      have hps2 := Lib.hid (hP2.out k)
      have hcs := Lib.hid (hCs.out k hlt)
      have hlk := hLn.out k
      have hcl := Lib.hid (hCl.out k)
      generalize TS k = ts at *
      generalize hck : CC (k + 1) = ck' at *
      have hck2 := Lib.hid hck
      clear hck
      generalize CC k = cs at *
      go_wp2_with (fail)
      refine (hC.out _ hBL.out).mono ?_
      rintro e w2 ⟨TA, tc, rs, rfl, hrs, hall, hb2⟩
      have hRS := Lib.hid hrs
      have hAL := Lib.hid hall
      have hB2 := Lib.hid (hBL.out.trans (hb2.mono hBL.out.size))
      have hM2 := Lib.hid (hMP.out.next hb2)
      have hg2 := Nat.lt_of_lt_of_le hgl hb2.size
      clear hrs hall hb2
      go_wp2_with (fail)
      go_loopw [18] (fun q wr => ∃ j : Nat, j ≤ ts.length ∧ q = .int .i64 j ∧ (∃ mm f, mm ≤ 14 * k + j ∧ MP wr b mm f ∧ ∀ i : Nat, i < n → f (i : Int) = (pcTo k cs ts j).getD i 0) ∧ Chg b (b + 1) w2 wr) (fun q _ => ts.length - (intOf q).toNat)
      case atStart => exact ⟨0, Nat.zero_le _, rfl, ⟨mm, f, hmm, hM2.out, hFF.out⟩, Chg.refl _ _ _⟩
      case round =>
        obtain ⟨j, hj, rfl, ⟨mj, fj, hmj, hmp, hff⟩, hch⟩ := hrel
        have hMJ := Lib.hid hmp
        have hFJ := Lib.hid hff
        have hCJ := Lib.hid hch
        have hgr := hmp.lt
        clear hmp hch hff
        by_cases hltj : j < ts.length
        · have hjr : j < rs.length := by rw [hAL.out.1]; exact hltj
          have hok4 := (hAL.out.2 j hjr hltj).chg hCJ.out (.inr hgl)
          obtain ⟨tb, to', rfl, ⟨_, htb⟩, hcc⟩ := (hRS.out.chg hCJ.out (Nat.le_refl _) (.inr hgl)) (by omega)
          have x1 := hcc j hjr 0 _ rfl
          have x2 := hcc j hjr 1 _ rfl
          have x3 := hcc j hjr 2 _ rfl
          have x4 := hcc j hjr 3 _ rfl
          simp only [Nat.add_zero] at x1
          have hpj := hps.out ts[j] (List.getElem_mem _)
          have hpl := hps2.out ts[j] (List.getElem_mem _)
          have hcb := hcs.out ts[j] (List.getElem_mem _)
          have hwf := Lib.hid (wcT_wf (pcTo k cs ts j) hcb.1 hcb.2)
          have hji : (j : Int) < (ts.length : Int) := by omega
          have hjh := Lib.hid hltj
          have hcj := Lib.hid (pcTo_len k cs ts j)
          have hSj := Lib.hid (pcTo_succ k cs hltj)
          have hst1 := Lib.hid (pcStep_set (i := k) (j := j) (c := pcTo k cs ts j) (x := ts[j]))
          have hst2 := Lib.hid (pcStep_old (i := k) (j := j) (c := pcTo k cs ts j) (x := ts[j]))
          have hw2r := hCJ.out.size
          generalize rs[j] = r at *
          obtain ⟨PA, pc, QA, qc, rfl, hp, hq⟩ := hok4.form
          have hbx := (Below.refl wr.heap.size wr).alloc (Nat.le_refl _) (.cells #[.int .i64 (ts[j]).num, .slice PA (ts[j]).ps.length pc, .slice QA (ts[j]).ins.length qc, .int .i64 (ts[j]).c] 77)
          have hCW := Lib.hid (costWith_any _ _ b mj n fj (pcTo k cs ts j) _ ts[j] _ (hok4.below hbx hCJ.out.size) (Nat.le_trans hCJ.out.size hbx.size) hpl (fun p hp => ⟨(hpj p hp).1, by have := (hpj p hp).2; omega⟩) hl24 (hMJ.out.next hbx) hFJ.out)
          have hMx := Lib.hid (hMJ.out.next hbx)
          have hCx := Lib.hid (hCJ.out.trans (Chg.ofBelow hbx))
          dsimp only at x1 x2 x3 x4 hCW
          clear hcc hok4 hp hq hbx hpj hpl hcb
          generalize wcT (pcTo k cs ts j) ts[j] = wc at *
          generalize hcn : pcTo k cs ts (j + 1) = cn' at *
          have hcn2 := Lib.hid hcn
          clear hcn
          generalize pcTo k cs ts j = cj at *
          generalize ts[j] = x at *
          obtain ⟨xn, ps, ins, xc⟩ := x
          dsimp only at x1 x2 x3 x4 hCW hCx hMx
          go_wp2_with (fail)
          refine hCW.out.mono ?_
          rintro e w3 ⟨rfl, hb3⟩
          have hM3 := hMx.out.next hb3
          have hlk2 := hM3.look (i := (k : Int)) (by omega) (by omega)
          rw [hFJ.out k hlt] at hlk2
          obtain ⟨w4, hrun, hm4, hg4⟩ := hM3.put (by omega : mj < 1000000) (i := (k : Int)) (by omega) (by omega) hwf.out
          have hM3h := Lib.hid hM3
          have hM4 := Lib.hid hm4
          have hC3 := Lib.hid (hCx.out.trans (Chg.ofBelow hb3))
          have hC4 := Lib.hid (hC3.out.trans (Chg.ofGrown hg4 (fun q e => by cases e; exact ⟨Nat.le_refl _, Nat.lt_succ_self _⟩)))
          have hcl2 : k < cj.length := by rw [hcj.out, hcl.out]; exact hlt
          have hF4 : Hid (∀ i : Nat, i < n → (fun q : Int => if q = (k : Int) then wc else fj q) (i : Int) = (cj.set k wc).getD i 0) := fun i hi => by
            dsimp only
            rw [getDI_set _ _ _ hcl2]
            by_cases e : k = i
            · subst e; rw [if_pos rfl, if_pos rfl]
            · rw [if_neg (by omega), if_neg e]; exact hFJ.out i hi
          clear hM3 hm4 hg4 hb3 hCW hMx hCx hcl2 x1 x2 x3 x4 hwf
          by_cases hj0 : j = 0
          · subst hj0
            have hs := Lib.hid (hst1.out (.inl rfl))
            clear hst1 hst2
            generalize cj.getD k 0 = old at *
            go_wp2
            have := hjh.out
            exact ⟨⟨1, by omega, by simp, ⟨mj + 1, _, by omega, hM4.out, by rw [hcn2.out, hSj.out, hs.out]; exact hF4.out⟩, hC4.out⟩, by simp [intOf]; omega⟩
          · have hji0 : ¬ (j : Int) = 0 := by omega
            have hjb : ((j : Int) == 0) = false := by simpa using hji0
            by_cases hq : wc < cj.getD k 0
            · have hs := Lib.hid (hst1.out (.inr hq))
              clear hst1 hst2
              generalize cj.getD k 0 = old at *
              go_wp2
              have := hjh.out
              exact ⟨⟨j + 1, hjh.out, by go_num, ⟨mj + 1, _, by omega, hM4.out, by rw [hcn2.out, hSj.out, hs.out]; exact hF4.out⟩, hC4.out⟩, by simp [intOf]; omega⟩
            · have hs := Lib.hid (hst2.out (fun h => h.elim hj0 hq))
              clear hst1 hst2
              generalize cj.getD k 0 = old at *
              go_wp2
              have := hjh.out
              exact ⟨⟨j + 1, hjh.out, by go_num, ⟨mj, _, by omega, hM3h.out, by rw [hcn2.out, hSj.out, hs.out]; exact hFJ.out⟩, hC3.out⟩, by simp [intOf]; omega⟩
        · obtain rfl : j = ts.length := by omega
          have hB3 := Lib.hid (below_chg hB2.out hCJ.out hB2.out.size hgw.out)
          go_wp2
          go_roundw
          case rel => exact ⟨k + 1, by omega, by go_num, ⟨mj, fj, by omega, hMJ.out, by rw [hck2.out, hSk.out]; exact hFJ.out⟩, hB3.out⟩
          case measure => simp [intOf]; omega
    · obtain rfl : k = n := by omega
      go_wp2
      go_ret
      exact ⟨b, mm, f, rfl, hMP.out, hFF.out, hBL.out⟩
end Go.Proofs.Ytgcbfiamhpfkhaa

/- maps.Collect(slices.All(prices)): the prices in a map. -/
namespace Go.Proofs.Ytgcbfiamhpfkhaa
open Go.RowKit Go.Shelf
set_option linter.unusedVariables false
set_option maxRecDepth 100000
attribute [local go_sem] Oper.semAt_some

/-- What slices.All hands to a round: a place and a number. -/
abbrev Pv := { x : Nat × Int // x.1 ≤ 24 ∧ (Lit.int .i64 x.2).wf = true }
def pvF (f : Nat → Int) (hwf : ∀ k, (Lit.int .i64 (f k)).wf = true) (k : Nat) : Pv := ⟨(min k 24, f k), Nat.min_le_right _ _, hwf k⟩
def pvFold (pre : List Pv) : Int → Int := pre.foldl (fun f x j => if j = (x.1.1 : Int) then x.1.2 else f j) (fun _ => 0)
theorem pvFold_snoc (pre : List Pv) (x : Pv) : pvFold (pre ++ [x]) = fun j => if j = (x.1.1 : Int) then x.1.2 else pvFold pre j := by
  unfold pvFold; rw [List.foldl_append]; rfl
theorem pvFold_upto (f : Nat → Int) (hwf : ∀ k, (Lit.int .i64 (f k)).wf = true) : ∀ k, k ≤ 24 → ∀ i : Nat, i < k → pvFold (uptoB (pvF f hwf) k) (i : Int) = f i
  | 0, _, i, hi => by omega
  | k + 1, hk, i, hi => by
    rw [uptoB_succ, pvFold_snoc]
    have e0 : (pvF f hwf k).1.1 = k := Nat.min_eq_left (by omega)
    by_cases e : i = k
    · subst e
      show (if _ then _ else _) = _
      rw [if_pos (by rw [e0])]; rfl
    · show (if _ then _ else _) = _
      rw [if_neg (by rw [e0]; omega)]; exact pvFold_upto f hwf k (by omega) i (by omega)

set_option maxHeartbeats 4000000 in
theorem all1_in (F : Fence) (n : Nat) (hf : F.fn 115) (hro : F.round = none) (hn : 1 ≤ n) (l Bs n₀ b off len cap : Nat) (f : Nat → Int) (hwf : ∀ k, (Lit.int .i64 (f k)).wf = true) (hl : len ≤ 24) (hb : b < n₀) (hBn : Bs < n₀) (J Jx : List Pv → World → Prop)
    (hY : ∀ pre x W, J pre W → pre.length < len → YieldAt F (n - 1) Try.prog l #[.int .i64 (x.1.1 : Int), .int .i64 x.1.2] W fun e W' =>
      (e = .returned (.bool true) ∧ J (pre ++ [x]) W' ∧ Below n₀ W W') ∨ (e = .returned (.bool false) ∧ Jx (pre ++ [x]) W'))
    (W : World) (hBs : BX W Bs 23 (.slice (some ⟨b, off, none⟩) len cap))
    (hc : ∀ k (h : k < len), W.cell? ⟨b, off + k, none⟩ = some (.int .i64 (f k))) (h0 : J [] W) :
    CallsIn F n Try.prog 115 #[.func (.yield l) #[] #[], .pointer (some ⟨Bs, 0, none⟩)] W fun e W' => (∃ v, e = .returned v) ∧
      ((∃ ys, ys = uptoB (pvF f hwf) len ∧ J ys W') ∨ (∃ pre, (∃ k, k ≤ len ∧ pre = uptoB (pvF f hwf) k) ∧ Jx pre W')) := by
  refine callsIn_of_wp Try.func115 rfl hf ?_ hro
  simp only [Try.ntmps115, List.size_toArray, List.length_cons, List.length_nil, Nat.reduceAdd, Nat.reduceSub, Array.replicate_succ, Array.replicate_zero, List.push_toArray, List.append_toArray, List.nil_append, List.cons_append]
  have cS0 := hBs.cell
  gi_wp2
  gi_loopw [7] (fun i wr => ∃ k : Nat, k ≤ len ∧ i = .int .i64 k ∧ J (uptoB (pvF f hwf) k) wr ∧ Below n₀ W wr)
    (fun i _ => len - (intOf i).toNat)
  case atStart => exact ⟨0, Nat.zero_le _, rfl, h0, Below.refl _ _⟩
  case round =>
    obtain ⟨k, hk, rfl, hJs, hnx⟩ := hrel
    by_cases hlt : k < len
    · have hk24 : k ≤ 24 := by omega
      have hki : (k : Int) < (len : Int) := by omega
      have hk0 : (0 : Int) ≤ (k : Int) := by omega
      have hcx := (hnx.cell (p := ⟨b, off + k, none⟩) hb).trans (hc k hlt)
      have hx : pvF f hwf k = ⟨(k, f k), hk24, hwf k⟩ := by
        apply Subtype.ext
        unfold pvF
        simp only
        rw [Nat.min_eq_left hk24]
      have hsucc : uptoB (pvF f hwf) (k + 1) = uptoB (pvF f hwf) k ++ [⟨(k, f k), hk24, hwf k⟩] := by rw [uptoB_succ, hx]
      obtain ⟨fn, tmps, assign, body, hy, hR⟩ := hY _ ⟨(k, f k), hk24, hwf k⟩ wr hJs (by rw [uptoB_length]; exact hlt)
      dsimp only at hy hR
      gi_wp2
      refine hR.mono ?_
      rintro e W3 (⟨rfl, hJ3, hk3⟩ | ⟨rfl, hJx3⟩)
      · gi_wp2
        go_roundw
        case rel => exact ⟨k + 1, by omega, by simp, by rw [hsucc]; exact hJ3, hnx.trans hk3⟩
        case measure => simp [intOf]; omega
      · gi_wp2
        refine bodyPost_ret (results_none rfl _ _ _) rfl ?_
        exact ⟨⟨_, rfl⟩, .inr ⟨_, ⟨k + 1, by omega, hsucc.symm⟩, hJx3⟩⟩
    · obtain rfl : k = len := by omega
      gi_wp2
      go_end0
      exact ⟨⟨_, rfl⟩, .inl ⟨_, rfl, hJs⟩⟩

/-- slices.All(s): the slice value is boxed; the function value captures the box. -/
theorem all_in (F : Fence) (n : Nat) (hf : F.fn 61) (hro : F.round = none) (a : Option Addr) (len cap : Nat) (w : World) :
    CallsIn F n Try.prog 61 #[.slice a len cap] w fun e w' => e = .returned (.func (.func 115) #[] #[.pointer (some ⟨w.heap.size, 0, none⟩)]) ∧ w' = w.alloc (.cells #[.slice a len cap] 23) := by
  refine callsIn_of_wp Try.func61 rfl hf ?_ hro
  simp only [Try.ntmps61, List.size_toArray, List.length_cons, List.length_nil, Nat.reduceAdd, Nat.reduceSub, Array.replicate_succ, Array.replicate_zero, List.push_toArray, List.append_toArray, List.nil_append, List.cons_append]
  gi_wp2
  go_ret
  exact ⟨rfl, rfl⟩

theorem all_stops (F : Fence) (n : Nat) (hf : F.fn 115) (hro : F.round = none) (hn : 1 ≤ n) (Bs n₀ L B : Nat) (A : Option Addr) (cap : Nat) (cs : List Int) (f : Nat → Int) (hwf : ∀ k, (Lit.int .i64 (f k)).wf = true) (hf2 : ∀ k, k < cs.length → f k = cs.getD k 0) (hl : cs.length ≤ 24) (hl1 : 1 ≤ cs.length) (w : World) (hn₀ : n₀ ≤ w.heap.size) (hBn : Bs < n₀)
    (hc : BX w Bs 23 (.slice A cs.length cap)) (hes : IS w L B A cs) (hB : B ≤ n₀) :
    SeqStopsK F n Try.prog 115 #[.pointer (some ⟨Bs, 0, none⟩)] (fun x : Pv => #[.int .i64 (x.1.1 : Int), .int .i64 x.1.2]) (Below n₀) (fun ys => ys = uptoB (pvF f hwf) cs.length) (fun pre => ∃ k, k ≤ cs.length ∧ pre = uptoB (pvF f hwf) k) cs.length w := fun l J Jx W hW _ _ hY h0 => by
  have hc' := hc.next hW
  obtain ⟨b, off, rfl, ⟨_, hbB⟩, hcs⟩ := (hes.below hW (by omega)) (by omega)
  exact all1_in F n hf hro hn l Bs n₀ b off cs.length cap f hwf hl (by omega) hBn J Jx hY W hc' (fun k h => by rw [hcs k h, hf2 k h, getD_get h]) h0

set_option maxHeartbeats 4000000 in
theorem insert_any (Bs b L B c : Nat) (A : Option Addr) (cs : List Int) (w : World) (f : Nat → Int) (hwf : ∀ k, (Lit.int .i64 (f k)).wf = true) (hf2 : ∀ k, k < cs.length → f k = cs.getD k 0) (hl : cs.length ≤ 24) (hl1 : 1 ≤ cs.length) (hm : MP w b 0 (fun _ => 0)) (hbx : BX w Bs 23 (.slice A cs.length c)) (hes : IS w L B A cs) (hB : B ≤ b) (hBb : Bs < b) :
    Calls Try.prog 114 #[.map (some b), .func (.func 115) #[] #[.pointer (some ⟨Bs, 0, none⟩)]] w fun e w' => (∃ v, e = .returned v) ∧ (∃ m g, MP w' b m g ∧ ∀ k : Nat, k < cs.length → g (k : Int) = cs.getD k 0) ∧ Below b w w' := by
  have hbl := hm.lt
  have bM := BX.new w 69 (.map (some b))
  have hB0 : Below w.heap.size w (w.alloc (.cells #[.map (some b)] 69)) := (Below.refl _ w).alloc (Nat.le_refl _) _
  have hM0 := hm.next hB0
  have hb0 := hbx.next hB0
  have hz := World.size_alloc w (.cells #[.map (some b)] 69)
  refine (callsIn_wide (n := 6)).1 ?_
  refine callsIn_of_wp_marks Try.func114 rfl trivial ?_ rfl
  simp only [Try.ntmps114, List.size_toArray, List.length_cons, List.length_nil, Nat.reduceAdd, Nat.reduceSub, Array.replicate_succ, Array.replicate_zero, List.push_toArray, List.append_toArray, List.nil_append, List.cons_append]
  gi_wp2
  refine wpIn_rangeFunc_ownG rfl (by omega) (gf := 115) (lb := #[.pointer (some ⟨Bs, 0, none⟩)]) rfl trivial (enters_of Try.func115 (by kernel_rfl) rfl)
    (all_stops Fence.wide 5 trivial rfl (by omega) Bs b L B A c cs f hwf hf2 hl hl1 _ (by omega) hBb hb0 (hes.below hB0 (by omega)) hB) belowK_t (belowK_b (by omega)) (Below.refl _ _) (fun _ => rfl)
    (fun pre W => BX W w.heap.size 69 (.map (some b)) ∧ MP W b pre.length (pvFold pre) ∧ Below b w W)
    (fun _ _ _ => False)
    ?hI (fun _ _ _ _ _ hs _ _ => hs) ⟨bM, hM0, hB0.mono (by omega)⟩
    (fun x => { tmps := #[.map (some b), .func (.func 115) #[] #[.pointer (some ⟨Bs, 0, none⟩)], .pointer (some ⟨w.heap.size, 0, none⟩), undef, .int .i64 (x.1.1 : Int), .int .i64 x.1.2, .func (.func 115) #[] #[.pointer (some ⟨Bs, 0, none⟩)], .int .i64 (x.1.1 : Int), .int .i64 x.1.2, undef, undef, undef], defers := [] }) ?assign ?body ?done ?stop
  case hI =>
    rintro pre W W' row ⟨h1, h2, h3⟩ hg hr
    refine ⟨h1.kept hg (row_not h1 (fun r e => (hr r e).2)), h2.kept hg (fun e => by have := (hr b e.symm).1; omega), h3.grown hg (Nat.le_trans (Nat.le_of_lt hbl) h3.size) (fun k e => by have := (hr k e).1; omega)⟩
  case assign =>
    intro l x W K hK
    gi_wp2
    exact hK
  case body =>
    rintro l pre ⟨⟨k, v⟩, hk, hv⟩ W ⟨h1, h2, h3⟩ hlt
    dsimp only at hk hv ⊢
    obtain ⟨w', hrun, hm', hg'⟩ := h2.put (by omega : pre.length < 1000000) (i := (k : Int)) (by omega) (by omega) hv
    have c1 := h1.cell
    have hm'h := Lib.hid hm'
    have hg'h := Lib.hid hg'
    have h1h := Lib.hid h1
    have h3h := Lib.hid h3
    have h2h := Lib.hid h2
    clear hm' hg' h1 h2 h3
    gi_wp2
    have hg := hg'h.out
    have h1 := h1h.out
    have h3 := h3h.out
    refine ⟨KeepsFrom.of_grownBy hg (fun j e => by cases e; omega), (Below.refl b W).grown hg (by have := h3.size; omega) (fun k e => by cases e; exact Nat.le_refl _), h1.kept hg (fun e => by injection e; omega), ?_, h3.grown hg (by have := h3.size; omega) (fun k e => by cases e; exact Nat.le_refl _)⟩
    rw [pvFold_snoc, List.length_append]; exact hm'h.out
  case done =>
    rintro D ys W hD rfl ⟨h1, h2, h3⟩ hK
    gi_wp2
    refine ⟨by simp, .inl ⟨_, _, rfl, run_takeDeferred hK, ?_⟩⟩
    refine ⟨_, results_none rfl _ _ _, ⟨_, rfl⟩, ⟨_, _, h2.kept (grownBy_putObj' _ D _) (fun e => by cases e; omega), fun k hk => ?_⟩, h3.trans (belowK_b (w := w) (by omega) W D _ _ (by omega) hK rfl rfl)⟩
    rw [pvFold_upto f hwf _ hl k hk]; exact hf2 k hk
  case stop =>
    rintro D c pre W _ _ h _
    exact h.elim

theorem collect_any (Bs L B c : Nat) (A : Option Addr) (cs : List Int) (w : World) (f : Nat → Int) (hwf : ∀ k, (Lit.int .i64 (f k)).wf = true) (hf2 : ∀ k, k < cs.length → f k = cs.getD k 0) (hl : cs.length ≤ 24) (hl1 : 1 ≤ cs.length) (hbx : BX w Bs 23 (.slice A cs.length c)) (hes : IS w L B A cs) (hB : B ≤ w.heap.size) :
    Calls Try.prog 60 #[.func (.func 115) #[] #[.pointer (some ⟨Bs, 0, none⟩)]] w fun e w' => ∃ b, e = .returned (.map (some b)) ∧ (∃ m g, MP w' b m g ∧ ∀ k : Nat, k < cs.length → g (k : Int) = cs.getD k 0) ∧ Below w.heap.size w w' := by
  have hBl := hbx.lt
  have ba := (Below.refl w.heap.size w).alloc (Nat.le_refl _) (.map #[] 0)
  have hI := Lib.hid (insert_any Bs w.heap.size L B c A cs (w.alloc (.map #[] 0)) f hwf hf2 hl hl1 (MP.made w) (hbx.next ba) (hes.below ba hB) hB hBl)
  have hba := Lib.hid ba
  have hmk := fun w => run_makeMap (P := Try.prog) 69 w
  clear ba hbx hes
  go_enter Try.func60, Try.ntmps60
  go_wp2_with (fail)
  refine hI.out.mono ?_
  rintro e w2 ⟨⟨v, rfl⟩, hM, hb⟩
  have hMh := Lib.hid hM
  have hbh := Lib.hid (hba.out.trans hb)
  clear hM hb
  go_wp2
  go_ret
  exact ⟨_, rfl, hMh.out, hbh.out⟩
end Go.Proofs.Ytgcbfiamhpfkhaa

/- UnfairAt, AreFair of the program. -/
namespace Go.Proofs.Ytgcbfiamhpfkhaa
open Go.RowKit Go.Shelf
set_option linter.unusedVariables false
set_option maxRecDepth 100000

theorem prOk_wf {n : Nat} {ps : List Int} (h : prOk n ps = true) : ps.length = n ∧ ∀ k, (Lit.int .i64 (ps.getD k 0)).wf = true := by
  unfold prOk at h
  simp only [Bool.and_eq_true, decide_eq_true_eq] at h
  refine ⟨h.1, fun k => ?_⟩
  by_cases hk : k < ps.length
  · have := allIn_mem h.2 _ (List.getElem_mem hk)
    rw [getD_get hk]; exact wf_i64 (by omega) (by omega)
  · rw [List.getD_eq_getElem?_getD, List.getElem?_eq_none (by omega)]; rfl

set_option maxHeartbeats 8000000 in
theorem iUnfairAt_go (L B L' B' : Nat) (A PA : Option Addr) (c pc : Nat) (es : List Nd) (ps : List Int) (w : World) (ht : treeR es = true) (hpr : prOk es.length ps = true) (hes : NS w L B A es) (hB : B ≤ w.heap.size) (hps : IS w L' B' PA ps) (hB' : B' ≤ w.heap.size) :
    Calls Try.prog 22 #[.slice A es.length c, .slice PA es.length pc] w fun e w' => e = .returned (ufV (ufR es ps)) ∧ Below w.heap.size w w' := by
  have hg : good es = true := by unfold treeR at ht; simp only [Bool.and_eq_true] at ht; exact ht.1
  obtain ⟨hl1, hl24, hok⟩ := good_len hg
  obtain ⟨hn, hwf⟩ := prOk_wf hpr
  have HT := Lib.hid (iIsTree_any L B A c es w (by omega) hes hB)
  have HP := Lib.hid fun (W : World) (hW : Below w.heap.size w W) => arePrices_any es.length L' B' A PA c pc ps W (by omega) (by omega) (hps.below hW hB')
  have HA := Lib.hid fun (W : World) => (callsIn_wide (n := 6)).1 (all_in Fence.wide 6 trivial rfl PA es.length pc W)
  have HC := Lib.hid fun (W : World) (hW : Below w.heap.size w W) => collect_any W.heap.size L' B' pc PA ps (W.alloc (.cells #[.slice PA ps.length pc] 23)) (fun k => ps.getD k 0) hwf (fun _ _ => rfl) (by omega) (by omega) (BX.new W 23 (.slice PA ps.length pc)) (hps.below (hW.alloc hW.size _) hB') (by have := hW.size; simp; omega)
  rw [ht] at HT
  rw [hpr, hn] at HP
  rw [hn] at HC
  have H2 := Lib.hid fun (k : Nat) (hk : k < es.length) (W : World) (hW : Below w.heap.size w W) => (show Calls Try.prog 62 #[.slice A es.length c, .int .i64 (k : Int)] W (TilesAre W (tsN es k)) from by rw [tsN_eq hk]; exact tilesOf_w L B A c es k hk W (hes.below hW hB) (Nat.le_trans hB hW.size) hl24 hok)
  have HN := Lib.hid fun (W : World) (hW : Below w.heap.size w W) => hps.below hW hB'
  have hPS := Lib.hid fun (k : Nat) (hk : k < es.length) => tsN_ps hok hk
  have hP2 := Lib.hid fun (k : Nat) => @tsN_ps2 es k
  have hLn := Lib.hid fun (k : Nat) => (show (tsN es k).length ≤ 13 from tilesL_len _ _)
  have hll := Lib.hid hn
  have hUN := Lib.hid (ufR_none (es := es) (ps := ps))
  have hUS := Lib.hid fun (k : Nat) (hk : k < es.length) (x : Ti) => ufR_some (es := es) (ps := ps) hk (x := x)
  clear ht hg hes hB hok hps hn hwf hpr
  generalize ufR es ps = U at *
  generalize tsN es = TS at *
  generalize good es = gd at *
  generalize es.length = n at *
  go_enter Try.func22, Try.ntmps22
  go_wp2_with (first | (go_at_call 57; refine HT.out.mono ?_; rintro e w1 ⟨rfl, hb1⟩; have hbh := Lib.hid hb1; clear hb1) | (go_at_call 58; refine (HP.out _ hbh.out).mono ?_; rintro e w2 ⟨rfl, rfl⟩) | (go_at_call 61; refine (HA.out _).mono ?_; rintro e w3 ⟨rfl, rfl⟩) | (go_at_call 60; refine (HC.out _ hbh.out).mono ?_; rintro e w4 ⟨b, rfl, ⟨m, g, hM, hgf⟩, hb4⟩; have hMh := Lib.hid hM; have hGF := Lib.hid hgf; have hBC := Lib.hid ((hbh.out.alloc hbh.out.size (.cells #[.slice PA n pc] 23)).trans (hb4.mono (by have := hbh.out.size; simp; omega))); clear hM hgf hb4))
  go_loopw [31] (fun q wr => ∃ k : Nat, k ≤ n ∧ q = .int .i64 k ∧ (∀ i, i < k → ufIn ps i (TS i) = none) ∧ Below w4.heap.size w4 wr) (fun q _ => n - (intOf q).toNat)
  case atStart => exact ⟨0, Nat.zero_le _, rfl, fun i hi => absurd hi (Nat.not_lt_zero _), Below.refl _ _⟩
  case round =>
    obtain ⟨k, hk, rfl, hno, hbel⟩ := hrel
    have hBW := Lib.hid (hBC.out.trans (hbel.mono hBC.out.size))
    have hBL := Lib.hid hbel
    have hNO := Lib.hid hno
    clear hbel hno
    by_cases hlt : k < n
    · obtain ⟨wo, hwo⟩ : ∃ wo : World, wo = wr := ⟨_, rfl⟩
      rw [← hwo] at hBL hBW ⊢
      clear hwo
      have hki : (k : Int) < (n : Int) := by omega
      have hk0 : (0 : Int) ≤ (k : Int) := by omega
      have hC := Lib.hid (H2.out k hlt)
      have hps := Lib.hid (hPS.out k hlt)
      have hps2 := Lib.hid (hP2.out k)
      have hlk := hLn.out k
      have hSm := Lib.hid (hUS.out k hlt)
      have hkh := Lib.hid hlt
      generalize hts : TS k = ts at *
      have hTs := Lib.hid hts
      clear hts
      go_wp2_with (fail)
      refine (hC.out _ hBW.out).mono ?_
      rintro e w2 ⟨TA, tc, rs, rfl, hrs, hall, hb2⟩
      have hRS := Lib.hid hrs
      have hAL := Lib.hid hall
      have hB2 := Lib.hid (hBL.out.trans (hb2.mono hBL.out.size))
      clear hrs hall hb2
      go_wp2_with (fail)
      go_loopw [38] (fun q wr => ∃ j : Nat, j ≤ ts.length ∧ q = .int .i64 j ∧ (∀ i (hi : i < ts.length), i < j → ¬ wcT ps ts[i] < ps.getD k 0) ∧ Below w2.heap.size w2 wr) (fun q _ => ts.length - (intOf q).toNat)
      case atStart => exact ⟨0, Nat.zero_le _, rfl, fun i hi h => absurd h (Nat.not_lt_zero _), Below.refl _ _⟩
      case round =>
        obtain ⟨j, hj, rfl, hno, hbel⟩ := hrel
        have hBJ := Lib.hid hbel
        have hNJ := Lib.hid hno
        have hBr := Lib.hid (hB2.out.trans (hbel.mono hB2.out.size))
        clear hno hbel
        by_cases hltj : j < ts.length
        · have hjr : j < rs.length := by rw [hAL.out.1]; exact hltj
          have hok4 := (hAL.out.2 j hjr hltj).below hBJ.out (Nat.le_refl _)
          obtain ⟨tb, to', rfl, ⟨_, htb⟩, hcc⟩ := (hRS.out.below hBJ.out (Nat.le_refl _)) (by omega)
          have x1 := hcc j hjr 0 _ rfl
          have x2 := hcc j hjr 1 _ rfl
          have x3 := hcc j hjr 2 _ rfl
          have x4 := hcc j hjr 3 _ rfl
          simp only [Nat.add_zero] at x1
          have hpj := hps.out ts[j] (List.getElem_mem _)
          have hpl := hps2.out ts[j] (List.getElem_mem _)
          obtain ⟨pb, po, rfl, ⟨_, hpB⟩, hpp⟩ := HN.out wr (hBC.out.trans (hBr.out.mono hBC.out.size)) (by rw [hll.out]; omega)
          have y1 := hpp k (by rw [hll.out]; exact hkh.out)
          rw [show ps[k]'(by rw [hll.out]; exact hkh.out) = ps.getD k 0 from (getD_get (by rw [hll.out]; exact hkh.out)).symm] at y1
          have hSj := Lib.hid fun (h : wcT ps ts[j] < ps.getD k 0) => hSm.out ts[j] (by rw [ufIn_some hltj h hNJ.out]) hNO.out
          have hNx := Lib.hid fun (h : ¬ wcT ps ts[j] < ps.getD k 0) => (show ∀ i (hi : i < ts.length), i < j + 1 → ¬ wcT ps ts[i] < ps.getD k 0 from fun i hi hij => by
            rcases Nat.lt_or_ge i j with h' | h'
            · exact hNJ.out i hi h'
            · obtain rfl : i = j := by omega
              exact h)
          have hji : (j : Int) < (ts.length : Int) := by omega
          have hj0 : (0 : Int) ≤ (j : Int) := by omega
          have hjh := Lib.hid hltj
          have hpw : pb < wr.heap.size := by have := hBr.out.size; have := hBC.out.size; omega
          have hw2r := hBJ.out.size
          generalize rs[j] = r at *
          obtain ⟨QA, qc, RA, rc, rfl, hp, hq⟩ := hok4.form
          have hbx := (Below.refl wr.heap.size wr).alloc (Nat.le_refl _) (.cells #[.int .i64 (ts[j]).num, .slice QA (ts[j]).ps.length qc, .slice RA (ts[j]).ins.length rc, .int .i64 (ts[j]).c] 77)
          have hCW := Lib.hid fun (W : World) (hW : Below wr.heap.size wr W) => costWith_any _ _ b m n g ps _ ts[j] W (hok4.below hW hw2r) (Nat.le_trans hw2r hW.size) hpl (fun p hp => ⟨(hpj p hp).1, by have := (hpj p hp).2; omega⟩) hl24 ((hMh.out.next hBr.out).next hW) (fun k hk => hGF.out k hk)
          have hbd := Lib.hid hbx.drew
          have nb : CB 77 (wr.alloc (.cells #[.int .i64 (ts[j]).num, .slice QA (ts[j]).ps.length qc, .slice RA (ts[j]).ins.length rc, .int .i64 (ts[j]).c] 77)) wr.heap.size [.int .i64 (ts[j]).num, .slice QA (ts[j]).ps.length qc, .slice RA (ts[j]).ins.length rc, .int .i64 (ts[j]).c] := heap_alloc_new wr _
          have n1 := nb.cell 0
          have n2 := nb.cell 1
          have n3 := nb.cell 2
          have n4 := nb.cell 3
          simp only [List.getElem?_cons_zero, List.getElem?_cons_succ] at n1 n2 n3 n4
          have y2 := (hbx.cell (p := ⟨pb, po + k, none⟩) hpw).trans y1
          dsimp only at x1 x2 x3 x4 hCW
          clear hcc hok4 hp hq hbx hpj hpl hpp nb
          generalize hwcd : wcT ps ts[j] = wc at *
          have hWC := Lib.hid hwcd
          clear hwcd
          generalize hold : ps.getD k 0 = old at *
          have hOLD := Lib.hid hold
          clear hold
          generalize hxx : ts[j] = x at *
          have hXX := Lib.hid hxx
          clear hxx
          obtain ⟨xn, xps, xins, xc⟩ := x
          dsimp only at x1 x2 x3 x4 hCW n1 n2 n3 n4 hbd hSj
          go_wp2_with (fail)
          obtain ⟨WB, hWB⟩ : ∃ WB, WB = wr.alloc (.cells #[.int .i64 xn, .slice QA xps.length qc, .slice RA xins.length rc, .int .i64 xc] 77) := ⟨_, rfl⟩
          have hwl : wr.heap.size < WB.heap.size := by rw [hWB]; simp
          have hpl2 : pb < WB.heap.size := by omega
          rw [← hWB] at n1 n2 n3 n4 y2 hbd ⊢
          clear hWB
          go_region_held3 (fun w' => w'.cell? ⟨pb, po + k, none⟩ = some (.int .i64 old) ∧ w'.cell? ⟨wr.heap.size, 0, none⟩ = some (.int .i64 xn) ∧ w'.cell? ⟨wr.heap.size, 1, none⟩ = some (.slice QA xps.length qc) ∧ w'.cell? ⟨wr.heap.size, 2, none⟩ = some (.slice RA xins.length rc) ∧ w'.cell? ⟨wr.heap.size, 3, none⟩ = some (.int .i64 xc)) (first | exact ⟨(hb3.cell (p := ⟨pb, po + k, none⟩) hpl2).trans y2, (hb3.cell (p := ⟨wr.heap.size, 0, none⟩) hwl).trans n1, (hb3.cell (p := ⟨wr.heap.size, 1, none⟩) hwl).trans n2, (hb3.cell (p := ⟨wr.heap.size, 2, none⟩) hwl).trans n3, (hb3.cell (p := ⟨wr.heap.size, 3, none⟩) hwl).trans n4⟩ | go_keep) ((go_at_call 63; refine (hCW.out _ hbd.out).mono ?_; rintro e w3 ⟨rfl, hb3⟩; have hB3 := Lib.hid (hbd.out.trans (hb3.mono hbd.out.size)); have m1 := (hb3.cell (p := ⟨wr.heap.size, 0, none⟩) hwl).trans n1))
          have hBf := Lib.hid (hBJ.out.trans (hB3.out.mono hBJ.out.size))
          have hBe := Lib.hid (hBC.out.trans ((hBr.out.trans (hB3.out.mono hBr.out.size)).mono hBC.out.size))
          clear hb3 n1 n2 n3 n4
          by_cases hq : wc < old
          · have hs := Lib.hid (hSj.out hq)
            have hBd := Lib.hid hBe.out.drew
            go_wp2_with (fail)
            go_region
            all_goals
              go_wp2
              go_ret3
              first | exact ⟨by rw [hs.out]; rfl, hBe.out⟩ | exact ⟨by rw [hs.out]; rfl, hBd.out⟩
          · have hnx := Lib.hid (hNx.out (by omega))
            have := hjh.out
            go_wp2
            go_roundw
            case rel => exact ⟨j + 1, hjh.out, by go_num, fun i hi h => by have := hnx.out i hi h; omega, hBf.out⟩
            case measure => simp [intOf]; omega
        · obtain rfl : j = ts.length := by omega
          have hkn := Lib.hid (show ∀ i, i < k + 1 → ufIn ps i (TS i) = none from fun i hi => by
            rcases Nat.lt_or_ge i k with h' | h'
            · exact hNO.out i h'
            · obtain rfl : i = k := by omega
              rw [hTs.out]
              exact ufIn_none fun j hj => hNJ.out j hj hj)
          have hkh2 := hkh.out
          go_wp2
          go_roundw
          case rel => exact ⟨k + 1, by omega, by go_num, hkn.out, hBr.out⟩
          case measure => simp [intOf]; omega
    · obtain rfl : k = n := by omega
      have hU := Lib.hid (hUN.out hNO.out)
      go_wp2
      go_ret3
      exact ⟨by rw [hU.out]; rfl, hBW.out⟩

set_option maxHeartbeats 4000000 in
theorem iUnfairAt_any (L B L' B' : Nat) (A PA : Option Addr) (c pc : Nat) (es : List Nd) (ps : List Int) (w : World) (hl : es.length ≤ 1048576) (hes : NS w L B A es) (hB : B ≤ w.heap.size) (hl' : ps.length ≤ 1048576) (hps : IS w L' B' PA ps) (hB' : B' ≤ w.heap.size) :
    Calls Try.prog 22 #[.slice A es.length c, .slice PA ps.length pc] w fun e w' => e = .returned (ufV (ufA es ps)) ∧ Below w.heap.size w w' := by
  by_cases h : treeR es = true ∧ prOk es.length ps = true
  · have e : ufA es ps = ufR es ps := by unfold ufA; rw [if_pos h]
    rw [e, (prOk_wf h.2).1]
    exact iUnfairAt_go L B L' B' A PA c pc es ps w h.1 h.2 hes hB hps hB'
  have hR := Lib.hid (show ufA es ps = none by unfold ufA; rw [if_neg h])
  have HT := Lib.hid (iIsTree_any L B A c es w hl hes hB)
  have HP := Lib.hid fun (W : World) (hW : Below w.heap.size w W) => arePrices_any es.length L' B' A PA c pc ps W hl hl' (hps.below hW hB')
  clear hes hB hps hB'
  generalize good es = gd at *
  cases ht : treeR es
  · rw [ht] at HT
    clear ht h HP
    go_enter Try.func22, Try.ntmps22
    go_wp2_with (go_at_call 57; refine HT.out.mono ?_; rintro e w1 ⟨rfl, hb1⟩; have hbh := Lib.hid hb1; clear hb1)
    go_ret3
    exact ⟨by rw [hR.out]; rfl, hbh.out⟩
  cases hp : prOk es.length ps
  · rw [ht] at HT
    rw [hp] at HP
    clear ht h hp
    go_enter Try.func22, Try.ntmps22
    go_wp2_with (first | (go_at_call 57; refine HT.out.mono ?_; rintro e w1 ⟨rfl, hb1⟩; have hbh := Lib.hid hb1; clear hb1) | (go_at_call 58; refine (HP.out _ hbh.out).mono ?_; rintro e w2 ⟨rfl, rfl⟩))
    go_ret3
    exact ⟨by rw [hR.out]; rfl, hbh.out⟩
  exact absurd ⟨ht, hp⟩ h

set_option maxHeartbeats 4000000 in
theorem iAreFair_any (L B L' B' : Nat) (A PA : Option Addr) (c pc : Nat) (es : List Nd) (ps : List Int) (w : World) (hl : es.length ≤ 1048576) (hes : NS w L B A es) (hB : B ≤ w.heap.size) (hl' : ps.length ≤ 1048576) (hps : IS w L' B' PA ps) (hB' : B' ≤ w.heap.size) :
    Calls Try.prog 18 #[.slice A es.length c, .slice PA ps.length pc] w fun e w' => e = .returned (.tuple #[.bool (treeR es && prOk es.length ps && (ufA es ps).isNone), .bool (treeR es)]) ∧ Below w.heap.size w w' := by
  have HT := Lib.hid (iIsTree_any L B A c es w hl hes hB)
  have HP := Lib.hid fun (W : World) (hW : Below w.heap.size w W) => arePrices_any es.length L' B' A PA c pc ps W hl hl' (hps.below hW hB')
  have HU := Lib.hid fun (W : World) (hW : Below w.heap.size w W) => iUnfairAt_any L B L' B' A PA c pc es ps W hl (hes.below hW hB) (Nat.le_trans hB hW.size) hl' (hps.below hW hB') (Nat.le_trans hB' hW.size)
  clear hes hB hps hB'
  generalize good es = gd at *
  cases ht : treeR es
  · rw [ht] at HT
    clear ht HP HU
    go_enter Try.func18, Try.ntmps18
    go_wp2_with (go_at_call 57; refine HT.out.mono ?_; rintro e w1 ⟨rfl, hb1⟩; have hbh := Lib.hid hb1; clear hb1)
    go_ret2
    exact ⟨rfl, hbh.out⟩
  rw [ht] at HT
  cases hp : prOk es.length ps
  · rw [hp] at HP
    clear ht hp HU
    go_enter Try.func18, Try.ntmps18
    go_wp2_with (first | (go_at_call 57; refine HT.out.mono ?_; rintro e w1 ⟨rfl, hb1⟩; have hbh := Lib.hid hb1; clear hb1) | (go_at_call 58; refine (HP.out _ hbh.out).mono ?_; rintro e w2 ⟨rfl, rfl⟩))
    go_ret2
    exact ⟨rfl, hbh.out⟩
  rw [hp] at HP
  clear ht hp
  generalize ufA es ps = U2 at *
  cases U2
  all_goals
    simp only [ufV, Option.map_none, Option.map_some, Option.getD_none, Option.getD_some, Option.isSome_none, Option.isSome_some] at HU
    go_enter Try.func18, Try.ntmps18
    go_wp2_with (first | (go_at_call 57; refine HT.out.mono ?_; rintro e w1 ⟨rfl, hb1⟩; have hbh := Lib.hid hb1; clear hb1) | (go_at_call 58; refine (HP.out _ hbh.out).mono ?_; rintro e w2 ⟨rfl, rfl⟩) | (go_at_call 22; refine (HU.out _ hbh.out).mono ?_; rintro e w3 ⟨rfl, hb3⟩; have hbi := Lib.hid (hbh.out.trans (hb3.mono hbh.out.size)); clear hb3))
    go_ret2
    exact ⟨rfl, hbi.out⟩

theorem sUnfairAt_k (L B : Nat) (A : Option Addr) (c : Nat) (es : List Nd) (L' B' : Nat) (PA : Option Addr) (pc : Nat) (ps : List Int) (w : World) (hl : es.length ≤ 1048576) (hes : RS Nd.enc 4 w L B A es) (hB : B ≤ w.heap.size) (hl' : ps.length ≤ 1048576) (hps : IS w L' B' PA ps) (hB' : B' ≤ w.heap.size) : Calls Try.prog 21 #[.slice A es.length c, .slice PA ps.length pc] w (ResUnfairAt ((ufA es ps).map Prod.fst |>.getD 0) ((ufA es ps).map Prod.snd |>.getD 0) (ufA es ps).isSome w) := sUnfairAt_any L B L' B' A PA c pc es ps w hl hes.ns hB hl' hps hB'
theorem iUnfairAt_k (L B : Nat) (A : Option Addr) (c : Nat) (es : List Nd) (L' B' : Nat) (PA : Option Addr) (pc : Nat) (ps : List Int) (w : World) (hl : es.length ≤ 1048576) (hes : RS Nd.enc 4 w L B A es) (hB : B ≤ w.heap.size) (hl' : ps.length ≤ 1048576) (hps : IS w L' B' PA ps) (hB' : B' ≤ w.heap.size) : Calls Try.prog 22 #[.slice A es.length c, .slice PA ps.length pc] w (ResUnfairAt ((ufA es ps).map Prod.fst |>.getD 0) ((ufA es ps).map Prod.snd |>.getD 0) (ufA es ps).isSome w) := iUnfairAt_any L B L' B' A PA c pc es ps w hl hes.ns hB hl' hps hB'
theorem sAreFair_k (L B : Nat) (A : Option Addr) (c : Nat) (es : List Nd) (L' B' : Nat) (PA : Option Addr) (pc : Nat) (ps : List Int) (w : World) (hl : es.length ≤ 1048576) (hes : RS Nd.enc 4 w L B A es) (hB : B ≤ w.heap.size) (hl' : ps.length ≤ 1048576) (hps : IS w L' B' PA ps) (hB' : B' ≤ w.heap.size) : Calls Try.prog 15 #[.slice A es.length c, .slice PA ps.length pc] w (ResAreFair (treeR es && prOk es.length ps && (ufA es ps).isNone) (treeR es) w) := sAreFair_any L B L' B' A PA c pc es ps w hl hes.ns hB hl' hps hB'
theorem iAreFair_k (L B : Nat) (A : Option Addr) (c : Nat) (es : List Nd) (L' B' : Nat) (PA : Option Addr) (pc : Nat) (ps : List Int) (w : World) (hl : es.length ≤ 1048576) (hes : RS Nd.enc 4 w L B A es) (hB : B ≤ w.heap.size) (hl' : ps.length ≤ 1048576) (hps : IS w L' B' PA ps) (hB' : B' ≤ w.heap.size) : Calls Try.prog 18 #[.slice A es.length c, .slice PA ps.length pc] w (ResAreFair (treeR es && prOk es.length ps && (ufA es ps).isNone) (treeR es) w) := iAreFair_any L B L' B' A PA c pc es ps w hl hes.ns hB hl' hps hB'
end Go.Proofs.Ytgcbfiamhpfkhaa

/- Arguments of the types []laws.Instr, laws.Instr and []int opened. -/
namespace Go.Proofs.Ytgcbfiamhpfkhaa
open Go.ChangeShapes Go.WideShapes Go.ChangeAt Go.RowKit Go.Deep
open Go.ChangeMaps (open_string shut_string)
set_option linter.unusedVariables false

theorem cellsIn : Try.prog.cellsOf 99 = 5 := by kernel_rfl
theorem cellsStr : Try.prog.cellsOf 9 = 1 := by kernel_rfl
theorem cellsInt : Try.prog.cellsOf 3 = 1 := by kernel_rfl

set_option maxRecDepth 100000 in
theorem in_of_trod {H : Type} {enc : TypeId × Value → H} {w : World} {base : Nat} {spare : Nat → Bool} {held : Bool} {n : Nat} {cs : List Value} {x : DataW H × List MemPlace}
    (h : DataW.trod enc Try.prog w base spare held n 99 cs = some x) : ∃ nd : In, cs = nd.enc ∧ nd.op.size ≤ maxLen := by
  obtain ⟨xs, m, _, _, hlen, hxl, hf⟩ := DataW.trod_struct Try.underlying99 h
  rw [cellsIn] at hlen
  match cs, hlen with
  | [c0, c1, c2, c3, c4], _ =>
    match xs, hxl with
    | [y0, y1, y2, y3, y4], _ =>
      have h0 := hf 0 _ rfl
      change DataW.trod enc Try.prog w base spare held m 9 (([c0, c1, c2, c3, c4].drop 0).take (Try.prog.cellsOf 9)) = _ at h0
      rw [cellsStr] at h0
      have h1 := hf 1 _ rfl
      change DataW.trod enc Try.prog w base spare held m 3 (([c0, c1, c2, c3, c4].drop 1).take (Try.prog.cellsOf 3)) = _ at h1
      rw [cellsInt] at h1
      have h2 := hf 2 _ rfl
      change DataW.trod enc Try.prog w base spare held m 3 (([c0, c1, c2, c3, c4].drop 2).take (Try.prog.cellsOf 3)) = _ at h2
      rw [cellsInt] at h2
      have h3 := hf 3 _ rfl
      change DataW.trod enc Try.prog w base spare held m 3 (([c0, c1, c2, c3, c4].drop 3).take (Try.prog.cellsOf 3)) = _ at h3
      rw [cellsInt] at h3
      have h4 := hf 4 _ rfl
      change DataW.trod enc Try.prog w base spare held m 3 (([c0, c1, c2, c3, c4].drop 4).take (Try.prog.cellsOf 3)) = _ at h4
      rw [cellsInt] at h4
      obtain ⟨s, e0, _, hs⟩ := DataW.trod_string Try.underlying9 h0
      obtain ⟨d, e1, _, _⟩ := DataW.trod_int Try.underlying3 h1
      obtain ⟨a, e2, _, _⟩ := DataW.trod_int Try.underlying3 h2
      obtain ⟨b, e3, _, _⟩ := DataW.trod_int Try.underlying3 h3
      obtain ⟨m, e4, _, _⟩ := DataW.trod_int Try.underlying3 h4
      have e0 : c0 = .string s := by simpa using e0
      have e1 : c1 = .int .i64 d := by simpa using e1
      have e2 : c2 = .int .i64 a := by simpa using e2
      have e3 : c3 = .int .i64 b := by simpa using e3
      have e4 : c4 = .int .i64 m := by simpa using e4
      exact ⟨⟨s, d, a, b, m⟩, by rw [e0, e1, e2, e3, e4]; rfl, hs⟩

theorem cell_lt_heap {w : World} {a : Addr} {v : Value} (h : w.cell? a = some v) : a.block < w.heap.size := by
  rcases Nat.lt_or_ge a.block w.heap.size with hlt | hge
  · exact hlt
  · unfold World.cell? at h; rw [Array.getElem?_eq_none hge] at h; simp at h

set_option maxRecDepth 100000 in
theorem x_of_trod {H : Type} {enc : TypeId × Value → H} {w : World} {r : Reach} {b0 : Nat} {spare : Nat → Bool} {held : Bool} {v : Value} {d : DataW H} {p : List MemPlace}
    (hv : Value.okWide Try.prog w r b0 99 v) (h : DataW.Trod enc Try.prog w 0 spare held 99 v d p) :
    ∃ x : In, v = .agg #[.string x.op, .int .i64 x.d, .int .i64 x.a, .int .i64 x.b, .int .i64 x.m] ∧ x.op.size ≤ 9223372036854775807 := by
  obtain ⟨cs, rfl, hsz⟩ := okWide_struct Try.underlying99 hv
  obtain ⟨fuel, hf⟩ := h
  obtain ⟨x, hx, hs⟩ := in_of_trod hf
  refine ⟨x, ?_, by unfold maxLen at hs; omega⟩
  obtain ⟨l⟩ := cs
  have hx' : l = x.enc := by simpa [Value.cells] using hx
  subst hx'; rfl

set_option maxRecDepth 100000 in
theorem ins_of_trod {H : Type} {enc : TypeId × Value → H} {w : World} {spare : Nat → Bool} {held : Bool} {A : Option Addr} {len cap : Nat} {d : DataW H} {p : List MemPlace}
    (h : DataW.Trod enc Try.prog w 0 spare held 44 (.slice A len cap) d p) :
    ∃ es : List In, es.length = len ∧ RS In.enc 5 w 0 w.heap.size A es ∧ (∀ n ∈ es, n.op.size ≤ 9223372036854775807) ∧ len ≤ 9223372036854775807 := by
  obtain ⟨fuel, hf⟩ := h
  rcases open_slice Try.underlying44 hf with ⟨hcs, _⟩ | ⟨a, l, c, m, n, D, Pl, hcs, _, hl, hm, hmm, _, hi⟩
  · simp [Value.cells] at hcs
    obtain ⟨rfl, rfl, rfl⟩ := hcs
    exact ⟨[], rfl, fun h => absurd h (by simp), (fun n hn => by cases hn), by omega⟩
  · simp [Value.cells] at hcs
    obtain ⟨rfl, rfl, rfl⟩ := hcs
    have hlm : len ≤ m := by rw [hmm]; split <;> omega
    have hex : ∀ i, i < len → ∃ nd : In, (∀ j v, nd.enc[j]? = some v → w.cell? (a.add (i * 5 + j)) = some v) ∧ nd.op.size ≤ maxLen := by
      intro i hil
      obtain ⟨cs', hc, ht⟩ := hi i (by omega)
      rw [cellsIn] at hc
      obtain ⟨nd, rfl, hs⟩ := in_of_trod ht
      obtain ⟨_, _, hat⟩ := World.cells?_some hc
      refine ⟨nd, fun j v hv => ?_, hs⟩
      have hj : j < 5 := kflat_lt In.hk hv
      have := hat j hj
      rw [add_add, hv] at this; exact this
    obtain ⟨f, hf2⟩ := Classical.axiomOfChoice (fun i : {i // i < len} => hex i.1 i.2)
    have hget : ∀ i (h : i < (List.ofFn fun i : Fin len => f ⟨i.1, i.2⟩).length), (List.ofFn fun i : Fin len => f ⟨i.1, i.2⟩)[i] = f ⟨i, by simpa using h⟩ := fun i h => by simp
    refine ⟨List.ofFn fun i : Fin len => f ⟨i.1, i.2⟩, by simp, ?_, ?_, by unfold maxLen at hm; omega⟩
    · intro hpos
      have hpos' : 0 < len := by simpa using hpos
      have h0 := (hf2 ⟨0, hpos'⟩).1 0 _ rfl
      obtain ⟨b, o, spot⟩ := a
      have hspot : spot = none := by have := World.cell?_spot h0; simpa [Addr.add] using this
      subst hspot
      have hadd : ∀ k, (⟨b, o, none⟩ : Addr).add k = ⟨b, o + k, none⟩ := fun k => by simp [Addr.add]
      refine ⟨b, o, rfl, ⟨Nat.zero_le _, ?_⟩, fun i hi j v hv => ?_⟩
      · rw [hadd] at h0
        exact cell_lt_heap h0
      · have hi' : i < len := by simpa using hi
        rw [hget i hi] at hv
        have := (hf2 ⟨i, hi'⟩).1 j v hv
        simp only [hadd, ← Nat.add_assoc] at this
        exact this
    · intro n hn
      obtain ⟨i, rfl⟩ := List.mem_ofFn.1 hn
      have := (hf2 ⟨i.1, i.2⟩).2
      unfold maxLen at this; omega

set_option maxRecDepth 100000 in
theorem ints_of_trod {H : Type} {enc : TypeId × Value → H} {w : World} {spare : Nat → Bool} {held : Bool} {A : Option Addr} {len cap : Nat} {d : DataW H} {p : List MemPlace}
    (h : DataW.Trod enc Try.prog w 0 spare held 23 (.slice A len cap) d p) :
    ∃ xs : List Int, xs.length = len ∧ IS w 0 w.heap.size A xs ∧ len ≤ 9223372036854775807 := by
  obtain ⟨fuel, hf⟩ := h
  rcases open_slice Try.underlying23 hf with ⟨hcs, _⟩ | ⟨a, l, c, m, n, D, Pl, hcs, _, hl, hm, hmm, _, hi⟩
  · simp [Value.cells] at hcs
    obtain ⟨rfl, rfl, rfl⟩ := hcs
    exact ⟨[], rfl, fun h => absurd h (by simp), by omega⟩
  · simp [Value.cells] at hcs
    obtain ⟨rfl, rfl, rfl⟩ := hcs
    have hlm : len ≤ m := by rw [hmm]; split <;> omega
    have hex : ∀ i, i < len → ∃ x : Int, w.cell? (a.add i) = some (.int .i64 x) := by
      intro i hil
      obtain ⟨cs', hc, ht⟩ := hi i (by omega)
      rw [cellsInt, Nat.mul_one] at hc
      obtain ⟨x, hx, _, _⟩ := DataW.trod_int Try.underlying3 ht
      obtain ⟨_, _, hat⟩ := World.cells?_some hc
      have := hat 0 (by omega)
      rw [add_add, hx] at this
      exact ⟨x, by simpa using this⟩
    obtain ⟨f, hf2⟩ := Classical.axiomOfChoice (fun i : {i // i < len} => hex i.1 i.2)
    have hget : ∀ i (h : i < (List.ofFn fun i : Fin len => f ⟨i.1, i.2⟩).length), (List.ofFn fun i : Fin len => f ⟨i.1, i.2⟩)[i] = f ⟨i, by simpa using h⟩ := fun i h => by simp
    refine ⟨List.ofFn fun i : Fin len => f ⟨i.1, i.2⟩, by simp, ?_, by unfold maxLen at hm; omega⟩
    intro hpos
    have hpos' : 0 < len := by simpa using hpos
    have h0 := hf2 ⟨0, hpos'⟩
    obtain ⟨b, o, spot⟩ := a
    have hspot : spot = none := by have := World.cell?_spot h0; simpa [Addr.add] using this
    subst hspot
    have hadd : ∀ k, (⟨b, o, none⟩ : Addr).add k = ⟨b, o + k, none⟩ := fun k => by simp [Addr.add]
    refine ⟨b, o, rfl, ⟨Nat.zero_le _, ?_⟩, fun i hi => ?_⟩
    · rw [hadd] at h0
      exact cell_lt_heap h0
    · have hi' : i < len := by simpa using hi
      rw [hget i hi]
      have := hf2 ⟨i, hi'⟩
      simp only [hadd] at this
      exact this
end Go.Proofs.Ytgcbfiamhpfkhaa

/- An argument of type []laws.Node opened as a list of nodes. -/
namespace Go.Proofs.Ytgcbfiamhpfkhaa
open Go.ChangeShapes Go.WideShapes Go.ChangeAt Go.RowKit Go.Deep
open Go.ChangeMaps (open_string shut_string)
set_option linter.unusedVariables false
set_option maxRecDepth 100000

theorem cellsNode : Try.prog.cellsOf 62 = 4 := by kernel_rfl

theorem node_of_trod {H : Type} {enc : TypeId × Value → H} {w : World} {base : Nat} {spare : Nat → Bool} {held : Bool} {n : Nat} {cs : List Value} {x : DataW H × List MemPlace}
    (h : DataW.trod enc Try.prog w base spare held n 62 cs = some x) : ∃ nd : Nd, cs = nd.cells ∧ nd.op.size ≤ maxLen := by
  obtain ⟨xs, m, _, _, hlen, hxl, hf⟩ := DataW.trod_struct Try.underlying62 h
  rw [cellsNode] at hlen
  match cs, hlen with
  | [c0, c1, c2, c3], _ =>
    match xs, hxl with
    | [y0, y1, y2, y3], _ =>
      have h0 := hf 0 _ rfl
      change DataW.trod enc Try.prog w base spare held m 9 (([c0, c1, c2, c3].drop 0).take (Try.prog.cellsOf 9)) = _ at h0
      rw [cellsStr] at h0
      have h1 := hf 1 _ rfl
      change DataW.trod enc Try.prog w base spare held m 3 (([c0, c1, c2, c3].drop 1).take (Try.prog.cellsOf 3)) = _ at h1
      rw [cellsInt] at h1
      have h2 := hf 2 _ rfl
      change DataW.trod enc Try.prog w base spare held m 3 (([c0, c1, c2, c3].drop 2).take (Try.prog.cellsOf 3)) = _ at h2
      rw [cellsInt] at h2
      have h3 := hf 3 _ rfl
      change DataW.trod enc Try.prog w base spare held m 3 (([c0, c1, c2, c3].drop 3).take (Try.prog.cellsOf 3)) = _ at h3
      rw [cellsInt] at h3
      obtain ⟨s, e0, _, hs⟩ := DataW.trod_string Try.underlying9 h0
      obtain ⟨a, e1, _, _⟩ := DataW.trod_int Try.underlying3 h1
      obtain ⟨b, e2, _, _⟩ := DataW.trod_int Try.underlying3 h2
      obtain ⟨v, e3, _, _⟩ := DataW.trod_int Try.underlying3 h3
      have e0 : c0 = .string s := by simpa using e0
      have e1 : c1 = .int .i64 a := by simpa using e1
      have e2 : c2 = .int .i64 b := by simpa using e2
      have e3 : c3 = .int .i64 v := by simpa using e3
      exact ⟨⟨s, a, b, v⟩, by rw [e0, e1, e2, e3]; rfl, hs⟩

theorem nodes_of_trod_ns {H : Type} {enc : TypeId × Value → H} {w : World} {spare : Nat → Bool} {held : Bool} {A : Option Addr} {len cap : Nat} {d : DataW H} {p : List MemPlace}
    (h : DataW.Trod enc Try.prog w 0 spare held 22 (.slice A len cap) d p) :
    ∃ es : List Nd, es.length = len ∧ NS w 0 w.heap.size A es ∧ (∀ n ∈ es, n.op.size ≤ 9223372036854775807) ∧ len ≤ 9223372036854775807 := by
  obtain ⟨fuel, hf⟩ := h
  rcases open_slice Try.underlying22 hf with ⟨hcs, _⟩ | ⟨a, l, c, m, n, D, Pl, hcs, _, hl, hm, hmm, _, hi⟩
  · simp [Value.cells] at hcs
    obtain ⟨rfl, rfl, rfl⟩ := hcs
    exact ⟨[], rfl, fun h => absurd h (by simp), (fun n hn => by cases hn), by omega⟩
  · simp [Value.cells] at hcs
    obtain ⟨rfl, rfl, rfl⟩ := hcs
    have hlm : len ≤ m := by rw [hmm]; split <;> omega
    have hex : ∀ i, i < len → ∃ nd : Nd, (w.cell? (a.add (i * 4)) = some (.string nd.op) ∧ w.cell? (a.add (i * 4 + 1)) = some (.int .i64 nd.a) ∧ w.cell? (a.add (i * 4 + 2)) = some (.int .i64 nd.b) ∧ w.cell? (a.add (i * 4 + 3)) = some (.int .i64 nd.v)) ∧ nd.op.size ≤ maxLen := by
      intro i hil
      obtain ⟨cs', hc, ht⟩ := hi i (by omega)
      rw [cellsNode] at hc
      obtain ⟨nd, rfl, hs⟩ := node_of_trod ht
      obtain ⟨_, _, hat⟩ := World.cells?_some hc
      refine ⟨nd, ⟨?_, ?_, ?_, ?_⟩, hs⟩
      · have := hat 0 (by omega); rw [add_add] at this; exact this
      · have := hat 1 (by omega); rw [add_add] at this; exact this
      · have := hat 2 (by omega); rw [add_add] at this; exact this
      · have := hat 3 (by omega); rw [add_add] at this; exact this
    obtain ⟨f, hf2⟩ := Classical.axiomOfChoice (fun i : {i // i < len} => hex i.1 i.2)
    have hget : ∀ i (h : i < (List.ofFn fun i : Fin len => f ⟨i.1, i.2⟩).length), (List.ofFn fun i : Fin len => f ⟨i.1, i.2⟩)[i] = f ⟨i, by simpa using h⟩ := fun i h => by simp
    refine ⟨List.ofFn fun i : Fin len => f ⟨i.1, i.2⟩, by simp, ?_, ?_, by unfold maxLen at hm; omega⟩
    · intro hpos
      have hpos' : 0 < len := by simpa using hpos
      have h0 := (hf2 ⟨0, hpos'⟩).1.1
      obtain ⟨b, o, spot⟩ := a
      have hspot : spot = none := by have := World.cell?_spot h0; simpa [Addr.add] using this
      subst hspot
      have hadd : ∀ k, (⟨b, o, none⟩ : Addr).add k = ⟨b, o + k, none⟩ := fun k => by simp [Addr.add]
      refine ⟨b, o, rfl, ⟨Nat.zero_le _, ?_⟩, fun i hi => ?_⟩
      · rw [hadd] at h0
        exact cell_lt_heap h0
      · have hi' : i < len := by simpa using hi
        rw [hget i hi]
        have := (hf2 ⟨i, hi'⟩).1
        simp only [hadd, ← Nat.add_assoc] at this
        exact this
    · intro n hn
      obtain ⟨i, rfl⟩ := List.mem_ofFn.1 hn
      have := (hf2 ⟨i.1, i.2⟩).2
      unfold maxLen at this; omega
theorem nodes_of_trod {H : Type} {enc : TypeId × Value → H} {w : World} {spare : Nat → Bool} {held : Bool} {A : Option Addr} {len cap : Nat} {d : DataW H} {p : List MemPlace}
    (h : DataW.Trod enc Try.prog w 0 spare held 22 (.slice A len cap) d p) :
    ∃ es : List Nd, es.length = len ∧ RS Nd.enc 4 w 0 w.heap.size A es ∧ (∀ n ∈ es, n.op.size ≤ 9223372036854775807) ∧ len ≤ 9223372036854775807 := by
  obtain ⟨es, h1, h2, h3⟩ := nodes_of_trod_ns h
  exact ⟨es, h1, h2.rs, h3⟩
end Go.Proofs.Ytgcbfiamhpfkhaa
