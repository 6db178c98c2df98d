import Derived.Test.YtjnbgnnlpeoaoaaCN
import Derived.Test.YtjnbgnnlpeoaoaaCF
import Derived.Test.YtjnbgnnlpeoaoaaLawB
import Derived.WalkKit
import Derived.WalkSpells
import Derived.WalkLawsBesides
import Derived.Lib.Hide
namespace Go.Proofs.Ytjnbgnnlpeoaoaa
open Go.RowKit
set_option linter.unusedVariables false
set_option maxRecDepth 100000

set_option maxHeartbeats 4000000 in
theorem cdRun_any (L B : Nat) (A : Option Addr) (c : Nat) (es : List In) (b o c' : Nat) (rs : List Int) (L' B' : Nat) (w : World) (hok : okCode es = true) (hes : RS In.enc 5 w L B A es) (hB : B ≤ w.heap.size) (h6 : words6 rs) (hI : IS w L' B' (some ⟨b, o, none⟩) rs) (hB' : B' ≤ w.heap.size) :
    Calls Try.prog 79 #[.slice A es.length c, .slice (some ⟨b, o, none⟩) 6 c'] w (Own6 w (runL es rs)) := by
  have hl := okCode_len hok
  have hall := Lib.hid (okCode_all hok)
  have hE := Lib.hid hes
  have hBB := Lib.hid hB
  have hH6 := Lib.hid h6
  have hL := Lib.hid ((l1Own_any L' B' (some ⟨b, o, none⟩) c' rs w (by rw [h6.1]; omega) hI hB').mono fun _ _ => own6_of h6.1)
  rw [show rs.length = 6 from h6.1] at hL
  clear hes hB hok h6 hI
  go_enter Try.func79, Try.ntmps79
  go_wp2_with (fail)
  refine hL.out.mono ?_
  rintro e w1 ⟨g1, c1, rfl, hg1, ho1, hb1⟩
  have hO1 := Lib.hid ho1
  have hbel1 := Lib.hid hb1
  clear ho1 hb1
  go_wp2
  go_loopw [5, 12] (fun q i wr => ∃ k : Nat, k ≤ es.length ∧ i = .int .i64 k ∧ (∃ g c1, q = .slice (some ⟨g, 0, none⟩) 6 c1 ∧ w.heap.size ≤ g ∧ OW wr g (g + 1) (.slice (some ⟨g, 0, none⟩) 6 c1) (runL (es.take k) rs)) ∧ Below w.heap.size w wr) (fun _ i _ => es.length - (intOf i).toNat)
  case atStart => exact ⟨0, Nat.zero_le _, rfl, ⟨g1, c1, rfl, hg1, hO1.out⟩, hbel1.out⟩
  case round =>
    obtain ⟨k, hk, rfl, ⟨g, c2, rfl, hg, how⟩, hbel⟩ := hrel
    have hO := Lib.hid how
    have hglt : g < wr.heap.size := (how.1.lt g rfl).2
    clear how
    by_cases hlt : k < es.length
    · obtain ⟨b, o, rfl, ⟨_, hbB⟩, hc⟩ := In.cells (hE.out.below hbel hBB.out) (by omega)
      obtain ⟨d1, d2, d3, d4, d5⟩ := hc k hlt
      clear hc
      have hx := Lib.hid (hall.out _ (List.getElem_mem hlt))
      have hS := Lib.hid (runL_snoc (rs := rs) hlt)
      have hW := Lib.hid (runL_words_take hall.out hH6.out k)
      generalize es[k] = nd at *
      obtain ⟨op, d, a, bb, m⟩ := nd
      have hbs := hbel.size
      have hbel2 := fun o => Lib.hid (hbel.alloc hbel.size o)
      have hO2 := fun o => Lib.hid (hO.out.below ((Below.refl wr.heap.size wr).alloc (Nat.le_refl _) o) hglt)
      clear hbel
      go_wp2_with (fail)
      refine (cdStep_any ⟨op, d, a, bb, m⟩ g 0 c2 _ g (g + 1) _ hx.out hW.out (hO2 _).out.rs (by simp; omega)).mono ?_
      rintro e w3 ⟨g3, c3, rfl, hg3, ho3, hb3⟩
      have hO3 := Lib.hid ho3
      have hbel3 := Lib.hid ((hbel2 _).out.trans (hb3.mono (by simp; omega)))
      simp at hg3
      clear ho3 hb3 d1 d2 d3 d4 d5
      go_wp2
      go_roundw
      case rel => exact ⟨k + 1, by omega, by go_num, ⟨g3, c3, rfl, by omega, by rw [hS.out]; exact hO3.out⟩, hbel3.out⟩
      case measure => simp [intOf]; omega
    · obtain rfl : k = es.length := by omega
      go_wp2
      go_ret
      exact ⟨g, c2, rfl, hg, by have := hO.out; rwa [List.take_length] at this, hbel⟩

def stepR (x : In) (rs : List Int) : List Int := if (goodIn x && regsOk rs) = true then stepL x rs else []
def runR (es : List In) (rs : List Int) : List Int := if (okCode es && regsOk rs) = true then runL es rs else []
theorem regs_words {rs : List Int} (h : regsOk rs = true) : words6 rs := by
  simp only [regsOk, Bool.and_eq_true, beq_iff_eq] at h
  exact h
theorem stepR_len (x : In) (rs : List Int) : (stepR x rs).length ≤ 1048576 := by
  unfold stepR; split
  · rename_i h; simp only [Bool.and_eq_true] at h
    have := (stepL_words h.1 (regs_words h.2)).1; omega
  · simp
theorem runR_len (es : List In) (rs : List Int) : (runR es rs).length ≤ 1048576 := by
  unfold runR; split
  · rename_i h; simp only [Bool.and_eq_true] at h
    have := (runL_words (okCode_all h.1) (regs_words h.2)).1; omega
  · simp
/-- The two results of a call that may leave a list. -/
theorem res_no {F : List Int → Bool → World → Ending → World → Prop} {w w' : World} {R : List Int} (hF : ∀ R ok w e w', (∃ A c, e = .returned (.tuple #[.slice A R.length c, .bool ok]) ∧ OW w' w.heap.size w'.heap.size (.slice A R.length c) R ∧ Below w.heap.size w w') → F R ok w e w') (hR : R = []) (hb : Below w.heap.size w w') :
    F R false w (.returned (.tuple #[.slice none 0 0, .bool false])) w' := by
  subst hR; exact hF _ _ _ _ _ ⟨none, 0, rfl, OW.nil _ _ _, hb⟩
theorem own6_res {w w' : World} {g c : Nat} {R : List Int} (h6 : R.length = 6) (hg : w.heap.size ≤ g) (ho : OW w' g (g + 1) (.slice (some ⟨g, 0, none⟩) 6 c) R) (hb : Below w.heap.size w w') :
    ∃ A c1, Ending.returned (.tuple #[.slice (some ⟨g, 0, none⟩) 6 c, .bool true]) = .returned (.tuple #[.slice A R.length c1, .bool true]) ∧ OW w' w.heap.size w'.heap.size (.slice A R.length c1) R ∧ Below w.heap.size w w' :=
  ⟨_, c, by rw [h6], by rw [h6]; exact (ho.lower hg).more (ho.1.lt g rfl).2, hb⟩

set_option maxHeartbeats 1000000 in
theorem sStepInstr_any (x : In) (L B : Nat) (A : Option Addr) (c : Nat) (rs : List Int) (w : World) (hl : rs.length ≤ 1048576) (hI : IS w L B A rs) (hB : B ≤ w.heap.size) :
    Calls Try.prog 33 #[.agg #[.string x.op, .int .i64 x.d, .int .i64 x.a, .int .i64 x.b, .int .i64 x.m], .slice A rs.length c] w (ResStepInstr (stepR x rs) (goodIn x && regsOk rs) w) := by
  have hE := Lib.hid hI
  obtain ⟨op, d, a, b, m⟩ := x
  have hb0 := Lib.hid ((Below.refl w.heap.size w).alloc (Nat.le_refl _) (.cells #[.string op, .int .i64 d, .int .i64 a, .int .i64 b, .int .i64 m] 26))
  clear hI
  go_enter Try.func33, Try.ntmps33
  go_wp2_with (fail)
  refine (cdGood_any _ _ _ _ _ _).mono ?_
  rintro e w2 ⟨rfl, hb⟩
  obtain ⟨xa, xb, xc, xd, xe⟩ := In.old (x := ⟨op, d, a, b, m⟩) rfl hb
  have hbb := Lib.hid (hb0.out.trans (hb.mono (by simp)))
  have hE2 := Lib.hid (hE.out.below hbb.out hB)
  have hz := hbb.out.size
  clear hb
  cases hg : goodIn ⟨op, d, a, b, m⟩
  · have hR : Hid (stepR ⟨op, d, a, b, m⟩ rs = []) := by simp [Hid, stepR, hg]
    have hK : Hid ((goodIn ⟨op, d, a, b, m⟩ && regsOk rs) = false) := by simp [Hid, hg]
    go_wp2
    go_ret2
    rw [hR.out, hK.out]; exact ⟨none, 0, rfl, OW.nil _ _ _, hbb.out⟩
  · have hG := Lib.hid hg
    have hC := Lib.hid (cdRegs_any L B A c rs w2 hl hE2.out)
    cases hr : regsOk rs
    · have hR : Hid (stepR ⟨op, d, a, b, m⟩ rs = []) := by simp [Hid, stepR, hr]
      have hK : Hid ((goodIn ⟨op, d, a, b, m⟩ && regsOk rs) = false) := by simp [Hid, hr]
      rw [hr] at hC
      go_wp2_with (fail)
      refine hC.out.mono ?_
      rintro e w3 ⟨rfl, rfl⟩
      go_wp2
      go_ret2
      rw [hR.out, hK.out]; exact ⟨none, 0, rfl, OW.nil _ _ _, hbb.out⟩
    · have hR : Hid (stepR ⟨op, d, a, b, m⟩ rs = stepL ⟨op, d, a, b, m⟩ rs) := by simp [Hid, stepR, hr, hg]
      have hK : Hid ((goodIn ⟨op, d, a, b, m⟩ && regsOk rs) = true) := by simp [Hid, hr, hg]
      have h6 := Lib.hid (regs_words hr)
      have h6' := Lib.hid (stepL_words hg (regs_words hr)).1
      rw [hr] at hC
      rw [show rs.length = 6 from h6.out.1] at hC ⊢
      obtain ⟨b', o', rfl, _, _⟩ := hE2.out.six h6.out.1
      clear hr hg
      go_wp2_with (fail)
      refine hC.out.mono ?_
      rintro e w3 ⟨rfl, rfl⟩
      go_wp2_with (fail)
      refine (cdStep_any ⟨op, d, a, b, m⟩ b' o' c rs L B _ hG.out h6.out hE2.out (by omega)).mono ?_
      rintro e w4 ⟨g4, c4, rfl, hg4, ho4, hb4⟩
      have hO4 := Lib.hid ho4
      have hbel4 := Lib.hid (hbb.out.trans (hb4.mono hz))
      clear ho4 hb4
      go_wp2
      go_ret2
      rw [hR.out, hK.out]
      exact own6_res h6'.out (by omega) hO4.out hbel4.out
end Go.Proofs.Ytjnbgnnlpeoaoaa
