import Derived.Test.YtmhdijklindipaaE
import Derived.Test.YtmhdijklindipaaD
import Derived.WalkKit
import Derived.WalkSpells
import Derived.WalkLawsBesides
import Derived.Lib.Hide
namespace Go.Proofs.Ytmhdijklindipaa
open Go.RowKit
set_option linter.unusedVariables false

def okFrom : List Nd → Int → Bool
  | [], _ => true
  | n :: t, i => isNode n i && okFrom t (i + 1)
theorem okFrom_snoc (l : List Nd) (n : Nd) (i : Int) : okFrom (l ++ [n]) i = (okFrom l i && isNode n (i + l.length)) := by
  induction l generalizing i with
  | nil => simp [okFrom]
  | cons a l ih => simp only [List.cons_append, okFrom, ih, Bool.and_assoc, List.length_cons]; congr 3; omega
theorem okFrom_take {es : List Nd} {k : Nat} (h : k < es.length) : okFrom (es.take (k + 1)) 0 = (okFrom (es.take k) 0 && isNode es[k] k) := by
  rw [List.take_succ_eq_append_getElem h, okFrom_snoc, List.length_take]; congr 2; omega
theorem okFrom_pre {l r : List Nd} {i : Int} (h : okFrom (l ++ r) i = true) : okFrom l i = true := by
  induction l generalizing i with
  | nil => rfl
  | cons a l ih => simp only [List.cons_append, okFrom, Bool.and_eq_true] at h ⊢; exact ⟨h.1, ih h.2⟩
theorem okFrom_of_take {es : List Nd} {k : Nat} (h : okFrom (es.take k) 0 = false) : okFrom es 0 = false := by
  cases hh : okFrom es 0
  · rfl
  · rw [← List.take_append_drop k es] at hh; rw [okFrom_pre hh] at h; cases h

def good (es : List Nd) : Bool := decide (1 ≤ es.length) && decide (es.length ≤ 24) && okFrom es 0 && !(hasI ((uses es).take (es.length - 1)) 0)

theorem isNode_parts {n : Nd} {i : Int} (h : isNode n i = true) : ∀ p ∈ parts n, 0 ≤ p ∧ p ≤ i - 1 := by
  obtain ⟨s, a, b, v⟩ := n
  intro p hp
  unfold isNode at h
  unfold parts at hp
  have hx : isIn s = true → isOne s = false ∧ isTwo s = false := by
    intro h; have : ar s = 0 := by simp [ar, h]
    rcases ar_cases s with ⟨h1, h3, h4⟩|⟨h1, h3, h4⟩|⟨h1, h3, h4⟩|⟨h1, h3, h4⟩ <;> first | exact ⟨h3, h4⟩ | omega
  have hy : isConst s = true → isOne s = false ∧ isTwo s = false := by
    intro h; have : ar s = 0 := by simp [ar, h]
    rcases ar_cases s with ⟨h1, h3, h4⟩|⟨h1, h3, h4⟩|⟨h1, h3, h4⟩|⟨h1, h3, h4⟩ <;> first | exact ⟨h3, h4⟩ | omega
  dsimp only at h hp
  split at h
  · rename_i h1; rw [(hx h1).1, (hx h1).2] at hp; simp at hp
  · split at h
    · rename_i _ h1; rw [(hy h1).1, (hy h1).2] at hp; simp at hp
    · split at h
      · rename_i h1; rw [if_pos h1] at hp; simp at hp; subst hp; simp only [Bool.and_eq_true] at h; exact (inR_iff _ _ _).1 h.1.1
      · rename_i h1; rw [if_neg h1] at hp; simp only [Bool.and_eq_true] at h
        rw [if_pos h.1.1.1] at hp; simp at hp
        rcases hp with rfl | rfl
        · exact (inR_iff _ _ _).1 h.1.1.2
        · exact (inR_iff _ _ _).1 h.1.2
theorem ok_parts_aux : ∀ (es : List Nd) (i : Int), okFrom es i = true → ∀ n ∈ es, ∀ p ∈ parts n, 0 ≤ p ∧ p < i + es.length := by
  intro es
  induction es with
  | nil => intro i _ n hn; cases hn
  | cons a l ih =>
    intro i h n hn p hp
    simp only [okFrom, Bool.and_eq_true] at h
    rcases List.mem_cons.1 hn with rfl | hn
    · have := isNode_parts h.1 p hp; simp; omega
    · have := ih (i + 1) h.2 n hn p hp; simp; omega
theorem ok_parts {es : List Nd} (h : okFrom es 0 = true) : ∀ n ∈ es, ∀ p ∈ parts n, 0 ≤ p ∧ p < es.length := by
  intro n hn p hp; have := ok_parts_aux es 0 h n hn p hp; omega

theorem IB.take {w : World} {g : Nat} {t : TypeId} {xs : List Int} (h : IB w g t xs) (k : Nat) : IS w g (g + 1) (some ⟨g, 0, none⟩) (xs.take k) :=
  fun _ => ⟨g, 0, rfl, by omega, fun i hi => by
    rw [List.length_take] at hi
    rw [Nat.zero_add, h.cell i (by omega), List.getElem_take]⟩

set_option maxHeartbeats 4000000 in
theorem exGood_any (L B : Nat) (A : Option Addr) (c : Nat) (es : List Nd) (w : World) (hl : es.length ≤ 1048576) (hes : NS w L B A es) (hB : B ≤ w.heap.size) :
    Calls Try.prog 117 #[.slice A es.length c] w fun e w' => e = .returned (.bool (good es)) ∧ Below w.heap.size w w' := by
  have hE := Lib.hid hes
  have hBel0 := Below.refl w.heap.size w
  clear hes
  by_cases h24 : inR es.length 1 24 = true
  · obtain ⟨h1, h2⟩ := (inR_iff _ _ _).1 h24
    have hBB := Lib.hid hB
    go_enter Try.func117, Try.ntmps117
    go_wp2_with (go_at_call 169; refine (l1In_r _ _ _ _).mono ?_; rintro e w' ⟨rfl, rfl⟩)
    go_loopw [11] (fun i wr => ∃ k : Nat, k ≤ es.length ∧ i = .int .i64 k ∧ okFrom (es.take k) 0 = true ∧ Below w.heap.size w wr) (fun i _ => es.length - (intOf i).toNat)
    case atStart => exact ⟨0, Nat.zero_le _, rfl, rfl, hBel0⟩
    case round =>
      obtain ⟨k, hk, rfl, hok, hbel⟩ := hrel
      have hOK := Lib.hid hok
      clear hok
      by_cases hlt : k < es.length
      · obtain ⟨b, o, rfl, ⟨_, hbB⟩, hc⟩ := (hE.out.below hbel hBB.out) (by omega)
        obtain ⟨c1, c2, c3, c4⟩ := hc k hlt
        clear hc
        have hT := Lib.hid (okFrom_take hlt)
        generalize es[k] = nd at *
        obtain ⟨s, a, bb, v⟩ := nd
        have hBelB := Lib.hid hbel
        go_wp2_with (fail)
        refine (exNode_any _ _ _ _ _ _ (by omega) (by omega)).mono ?_
        rintro e w2 ⟨rfl, hb2⟩
        have hbel2 : Below w.heap.size w w2 := hBelB.out.trans (((Below.refl _ _).alloc hBelB.out.size _).trans (hb2.mono (by simp; have := hBelB.out.size; omega)))
        clear hb2 hbel c1 c2 c3 c4
        cases hn : isNode ⟨s, a, bb, v⟩ ↑k
        · have hG : Hid (good es = false) := by
            have : okFrom es 0 = false := okFrom_of_take (k := k + 1) (by rw [hT.out, hn]; simp)
            simp [Hid, good, this]
          go_wp2
          go_ret
          exact ⟨ret_bool hG.out.symm, hbel2⟩
        · have hN := Lib.hid hn
          go_wp2
          go_roundw
          case rel => exact ⟨k + 1, by omega, by go_num, by rw [hT.out, hOK.out, hN.out]; rfl, hbel2⟩
          case measure => simp [intOf]; omega
      · obtain rfl : k = es.length := by omega
        have hok : okFrom es 0 = true := by have := hOK.out; rwa [List.take_length] at this
        have hU := Lib.hid (exUses_any L B A c es wr (by omega) (hE.out.below hbel hBB.out) (Nat.le_trans hBB.out hbel.size) (ok_parts hok))
        have hG : Hid (good es = !(hasI ((uses es).take (es.length - 1)) 0)) := by
          have g1 : 1 ≤ es.length := by omega
          have g2 : es.length ≤ 24 := by omega
          simp [Hid, good, hok, g1, g2]
        have hBelB := Lib.hid hbel
        have hul : (uses es).length = es.length := usesAt_len es _
        have hUL := Lib.hid hul
        clear hok hul hbel
        go_wp2_with (fail)
        refine hU.out.mono ?_
        rintro e w2 ⟨g, rfl, hg, hib, hb2⟩
        have hI := Lib.hid hib
        have hbel2 := hBelB.out.trans (hb2.mono hBelB.out.size)
        clear hib hb2
        rw [hUL.out]
        go_wp2_with (fail)
        refine (l1Has_eq g (g + 1) _ _ _ ((uses es).take (es.length - 1)) 0 _ (by rw [List.length_take, hUL.out]; omega) (by rw [List.length_take, hUL.out]; omega) (hI.out.take _)).mono ?_
        rintro e w3 ⟨rfl, rfl⟩
        go_wp2
        go_ret
        exact ⟨ret_bool hG.out.symm, hbel2⟩
  · have hG : Hid (good es = false) := by
      have : ¬ (1 ≤ es.length ∧ es.length ≤ 24) := fun h => h24 ((inR_iff _ _ _).2 (by omega))
      simp only [Hid, good]
      by_cases h1 : 1 ≤ es.length
      · have : ¬ es.length ≤ 24 := by omega
        simp [this]
      · simp [h1]
    have h24' : inR es.length 1 24 = false := by simpa using h24
    clear h24
    go_enter Try.func117, Try.ntmps117
    go_wp2_with (go_at_call 169; refine (l1In_r _ _ _ _).mono ?_; rintro e w' ⟨rfl, rfl⟩)
    go_ret
    exact ⟨ret_bool hG.out.symm, hBel0⟩
end Go.Proofs.Ytmhdijklindipaa
