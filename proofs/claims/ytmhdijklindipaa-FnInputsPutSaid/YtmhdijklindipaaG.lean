import Derived.Test.YtmhdijklindipaaF
import Derived.WalkKit
import Derived.WalkSpells
import Derived.WalkLawsBesides
import Derived.Lib.Hide
namespace Go.Proofs.Ytmhdijklindipaa
open Go.RowKit
set_option linter.unusedVariables false

set_option maxHeartbeats 4000000 in
theorem IsExpr_any (L B : Nat) (A : Option Addr) (c : Nat) (es : List Nd) (w : World) (hl : es.length ≤ 1048576) (hes : NS w L B A es) (hB : B ≤ w.heap.size) :
    Calls Try.prog 22 #[.slice A es.length c] w fun e w' => e = .returned (.bool (good es)) ∧ Below w.heap.size w w' := by
  have hE := Lib.hid hes
  have hBel0 := Below.refl w.heap.size w
  clear hes
  by_cases h24 : inR es.length 1 24 = true
  · obtain ⟨h1, h2⟩ := (inR_iff _ _ _).1 h24
    have hBB := Lib.hid hB
    go_enter Try.func22, Try.ntmps22
    go_wp2
    go_loopw [15] (fun i wr => ∃ k : Nat, k ≤ es.length ∧ i = .int .i64 k ∧ okFrom (es.take k) 0 = true ∧ Below w.heap.size w wr) (fun i _ => es.length - (intOf i).toNat)
    case atStart => exact ⟨0, Nat.zero_le _, rfl, rfl, hBel0⟩
    case round =>
      obtain ⟨k, hk, rfl, hok, hbel⟩ := hrel
      have hOK := Lib.hid hok
      clear hok
      by_cases hlt : k < es.length
      · obtain ⟨b, o, rfl, ⟨_, hbB⟩, hc⟩ := (hE.out.below hbel hBB.out) (by omega)
        obtain ⟨c1, c2, c3, c4⟩ := hc k hlt
        clear hc
        have hT := Lib.hid (okFrom_take hlt)
        generalize es[k] = nd at *
        obtain ⟨s, a, bb, v⟩ := nd
        have hBelB := Lib.hid hbel
        go_wp2_with (fail)
        refine (isNodeAt_any _ _ _ _ _ _).mono ?_
        rintro e w2 ⟨rfl, hb2⟩
        have hbel2 : Below w.heap.size w w2 := hBelB.out.trans (((Below.refl _ _).alloc hBelB.out.size _).trans (hb2.mono (by simp; have := hBelB.out.size; omega)))
        clear hb2 hbel c1 c2 c3 c4
        cases hn : isNode ⟨s, a, bb, v⟩ ↑k
        · have hG : Hid (good es = false) := by
            have : okFrom es 0 = false := okFrom_of_take (k := k + 1) (by rw [hT.out, hn]; simp)
            simp [Hid, good, this]
          go_wp2
          go_ret
          exact ⟨ret_bool hG.out.symm, hbel2⟩
        · have hN := Lib.hid hn
          go_wp2
          go_roundw
          case rel => exact ⟨k + 1, by omega, by go_num, by rw [hT.out, hOK.out, hN.out]; rfl, hbel2⟩
          case measure => simp [intOf]; omega
      · obtain rfl : k = es.length := by omega
        have hok : okFrom es 0 = true := by have := hOK.out; rwa [List.take_length] at this
        have hU := Lib.hid (usesOf_any L B A c es wr (by omega) (hE.out.below hbel hBB.out) (Nat.le_trans hBB.out hbel.size) (ok_parts hok))
        have hG : Hid (good es = !(hasI ((uses es).take (es.length - 1)) 0)) := by
          have g1 : 1 ≤ es.length := by omega
          have g2 : es.length ≤ 24 := by omega
          simp [Hid, good, hok, g1, g2]
        have hBelB := Lib.hid hbel
        have hul : (uses es).length = es.length := usesAt_len es _
        have hUL := Lib.hid hul
        clear hok hul hbel
        go_wp2_with (fail)
        refine hU.out.mono ?_
        rintro e w2 ⟨g, rfl, hg, hib, hb2⟩
        have hI := Lib.hid hib
        have hbel2 := hBelB.out.trans (hb2.mono hBelB.out.size)
        clear hib hb2
        rw [hUL.out]
        go_wp2_with (fail)
        refine (Contains_eq g (g + 1) _ _ _ ((uses es).take (es.length - 1)) 0 _ (by rw [List.length_take, hUL.out]; omega) (by rw [List.length_take, hUL.out]; omega) (hI.out.take _)).mono ?_
        rintro e w3 ⟨rfl, rfl⟩
        go_wp2
        go_ret
        exact ⟨ret_bool hG.out.symm, hbel2⟩
  · have hG : Hid (good es = false) := by
      have : ¬ (1 ≤ es.length ∧ es.length ≤ 24) := fun h => h24 ((inR_iff _ _ _).2 (by omega))
      simp only [Hid, good]
      by_cases h1 : 1 ≤ es.length
      · have : ¬ es.length ≤ 24 := by omega
        simp [this]
      · simp [h1]
    have h24' : es.length < 1 ∨ 24 < es.length := by
      have : ¬ (1 ≤ (es.length : Int) ∧ (es.length : Int) ≤ 24) := fun h => h24 ((inR_iff _ _ _).2 h)
      omega
    clear h24
    rcases h24' with h5 | h5
    all_goals
      go_enter Try.func22, Try.ntmps22
      go_wp2
      go_ret
      exact ⟨ret_bool hG.out.symm, hBel0⟩
end Go.Proofs.Ytmhdijklindipaa
