import Derived.Test.YtpgdccfpegdcoaaCY
/- Names of registers: the plain model. No program. -/
namespace Go.Proofs.Ytpgdccfpegdcoaa
open Go.RowKit
set_option linter.unusedVariables false

def riseB (xs : List Int) : Bool := allIn xs 0 5 && decide (xs.Pairwise (· < ·))
def onceB (xs : List Int) : Bool := decide xs.Nodup
def namesOk (xs : List Int) : Bool := xs.length == 6 && allIn xs 0 5 && onceB xs
theorem allIn_perm {xs ys : List Int} {lo hi : Int} (h : xs.Perm ys) : allIn xs lo hi = allIn ys lo hi := by
  rw [Bool.eq_iff_iff]; simp only [allIn, List.all_eq_true]
  exact ⟨fun k x hx => k x (h.mem_iff.2 hx), fun k x hx => k x (h.mem_iff.1 hx)⟩
theorem sorted_perm (xs : List Int) : (sorted xs).Perm xs := List.mergeSort_perm _ _
theorem sorted_le (xs : List Int) : (sorted xs).Pairwise (· ≤ ·) := by
  have := List.pairwise_mergeSort (le := fun (x y : Int) => decide (x ≤ y)) (by intro a b c; simp; omega) (by intro a b; simp; omega) xs
  exact this.imp fun h => by simpa using h
theorem lt_of_le {xs : List Int} (h : xs.Pairwise (· ≤ ·)) (hn : xs.Nodup) : xs.Pairwise (· < ·) := by
  refine (h.and hn).imp ?_
  rintro a b ⟨h1, h2⟩; omega
theorem nodup_of_lt {xs : List Int} (h : xs.Pairwise (· < ·)) : xs.Nodup := h.imp fun h => by omega
theorem rise_sorted (xs : List Int) : riseB (sorted xs) = (allIn xs 0 5 && onceB xs) := by
  unfold riseB onceB
  rw [allIn_perm (sorted_perm xs)]
  congr 1
  rw [decide_eq_decide]
  exact ⟨fun h => (sorted_perm xs).nodup_iff.1 (nodup_of_lt h), fun h => lt_of_le (sorted_le xs) ((sorted_perm xs).nodup_iff.2 h)⟩
theorem once_no {xs : List Int} {k : Nat} (h : k < xs.length) (hh : hasI (xs.take k) xs[k] = true) : onceB xs = false := by
  simp only [onceB, decide_eq_false_iff_not]
  intro hn
  have h1 : (xs.take (k + 1)).Nodup := hn.sublist (List.take_sublist _ _)
  rw [List.take_succ_eq_append_getElem h, List.nodup_append] at h1
  obtain ⟨x, hx, he⟩ := List.any_eq_true.1 hh
  exact h1.2.2 x hx xs[k] (by simp) (by simpa using he)
theorem once_snoc {xs : List Int} {k : Nat} (h : k < xs.length) (ho : onceB (xs.take k) = true) (hh : hasI (xs.take k) xs[k] = false) : onceB (xs.take (k + 1)) = true := by
  simp only [onceB, decide_eq_true_eq] at ho ⊢
  rw [List.take_succ_eq_append_getElem h, List.nodup_append]
  refine ⟨ho, by simp, fun a ha b hb => ?_⟩
  simp at hb; subst hb
  intro he; subst he
  have : hasI (xs.take k) xs[k] = true := List.any_eq_true.2 ⟨_, ha, by simp⟩
  rw [hh] at this; cases this
theorem rise_reg {xs : List Int} {k : Nat} (h : k < xs.length) (hh : inR xs[k] 0 5 = false) : riseB xs = false := by
  have : allIn xs 0 5 = false := by
    cases hb : allIn xs 0 5
    · rfl
    · have := List.all_eq_true.1 hb xs[k] (List.getElem_mem h); rw [hh] at this; cases this
  simp [riseB, this]
theorem rise_le {xs : List Int} {k : Nat} (h : k + 1 < xs.length) (hh : xs[k + 1] ≤ xs[k]) : riseB xs = false := by
  have : ¬ xs.Pairwise (· < ·) := fun hp => by
    have := List.pairwise_iff_getElem.1 hp k (k + 1) (by omega) h (by omega); omega
  simp [riseB, this]
theorem rise_snoc0 {xs : List Int} (h : 0 < xs.length) (hr : inR xs[0] 0 5 = true) : riseB (xs.take 1) = true := by
  obtain _ | ⟨x, xs⟩ := xs
  · simp at h
  · simp [riseB, allIn] at hr ⊢; exact hr
theorem rise_snoc {xs : List Int} {k : Nat} (h : k + 1 < xs.length) (ho : riseB (xs.take (k + 1)) = true) (hr : inR xs[k + 1] 0 5 = true) (hh : xs[k] < xs[k + 1]) : riseB (xs.take (k + 2)) = true := by
  simp only [riseB, Bool.and_eq_true, decide_eq_true_eq] at ho ⊢
  refine ⟨by rw [allIn_snoc h, ho.1, hr]; rfl, ?_⟩
  rw [List.pairwise_iff_getElem] at *
  intro i j hi hj hij
  simp only [List.length_take] at hi hj
  simp only [List.getElem_take]
  have hp := fun i j (hi : i < k + 1) (hj : j < k + 1) (hij : i < j) => by
    have := ho.2 i j (by simp; omega) (by simp; omega) hij; simpa using this
  by_cases hj1 : j = k + 1
  · subst hj1
    by_cases hi1 : i = k
    · subst hi1; exact hh
    · have := hp i k (by omega) (by omega) (by omega)
      omega
  · exact hp i j (by omega) (by omega) hij
def ren (ns : List Int) (x : In) : In := ⟨x.op, ns.getD x.d.toNat 0, if (fm x.op).a = true then ns.getD x.a.toNat 0 else 0, if (fm x.op).b = true then ns.getD x.b.toNat 0 else 0, x.m⟩
def renR (es : List In) (ns : List Int) : List In := if (okCode es && namesOk ns) = true then es.map (ren ns) else []
theorem renR_len (es : List In) (ns : List Int) : (renR es ns).length ≤ 1048576 := by
  unfold renR; split
  · rename_i h; simp only [Bool.and_eq_true] at h
    have := okCode_len h.1; simp; omega
  · simp
theorem names6 {ns : List Int} (h : namesOk ns = true) : ns.length = 6 := by
  simp only [namesOk, Bool.and_eq_true, beq_iff_eq] at h; exact h.1.1
theorem good_zero {x : In} (h : goodIn x = true) : ((fm x.op).a = false → x.a = 0) ∧ ((fm x.op).b = false → x.b = 0) := by
  simp only [goodIn, opnd, Bool.and_eq_true, Bool.or_eq_true, beq_iff_eq] at h
  obtain ⟨⟨⟨⟨h1, h2⟩, h3⟩, h4⟩, h5⟩ := h
  constructor
  · intro ha; rcases h3 with h | h
    · exact h
    · rw [ha] at h; simp at h
  · intro ha; rcases h4 with h | h
    · exact h
    · rw [ha] at h; simp at h
end Go.Proofs.Ytpgdccfpegdcoaa
