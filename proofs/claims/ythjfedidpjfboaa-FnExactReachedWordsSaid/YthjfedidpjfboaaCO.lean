import Derived.Test.YthjfedidpjfboaaCN
import Derived.Test.YthjfedidpjfboaaCF
import Derived.Test.YthjfedidpjfboaaLawB
import Derived.WalkKit
import Derived.WalkSpells
import Derived.WalkLawsBesides
import Derived.Lib.Hide
namespace Go.Proofs.Ythjfedidpjfboaa
open Go.RowKit
set_option linter.unusedVariables false
set_option maxRecDepth 100000

set_option maxHeartbeats 4000000 in
theorem cdRun_any (L B : Nat) (A : Option Addr) (c : Nat) (es : List In) (b o c' : Nat) (rs : List Int) (L' B' : Nat) (w : World) (hok : okCode es = true) (hes : RS In.enc 5 w L B A es) (hB : B ≤ w.heap.size) (h6 : words6 rs) (hI : IS w L' B' (some ⟨b, o, none⟩) rs) (hB' : B' ≤ w.heap.size) :
    Calls Try.prog 112 #[.slice A es.length c, .slice (some ⟨b, o, none⟩) 6 c'] w (Own6 w (runL es rs)) := by
  have hl := okCode_len hok
  have hall := Lib.hid (okCode_all hok)
  have hE := Lib.hid hes
  have hBB := Lib.hid hB
  have hH6 := Lib.hid h6
  have hL := Lib.hid ((l1Own_any L' B' (some ⟨b, o, none⟩) c' rs w (by rw [h6.1]; omega) hI hB').mono fun _ _ => own6_of h6.1)
  rw [show rs.length = 6 from h6.1] at hL
  clear hes hB hok h6 hI
  go_enter Try.func112, Try.ntmps112
  go_wp2_with (fail)
  refine hL.out.mono ?_
  rintro e w1 ⟨g1, c1, rfl, hg1, ho1, hb1⟩
  have hO1 := Lib.hid ho1
  have hbel1 := Lib.hid hb1
  clear ho1 hb1
  go_wp2
  go_loopw [5, 12] (fun q i wr => ∃ k : Nat, k ≤ es.length ∧ i = .int .i64 k ∧ (∃ g c1, q = .slice (some ⟨g, 0, none⟩) 6 c1 ∧ w.heap.size ≤ g ∧ OW wr g (g + 1) (.slice (some ⟨g, 0, none⟩) 6 c1) (runL (es.take k) rs)) ∧ Below w.heap.size w wr) (fun _ i _ => es.length - (intOf i).toNat)
  case atStart => exact ⟨0, Nat.zero_le _, rfl, ⟨g1, c1, rfl, hg1, hO1.out⟩, hbel1.out⟩
  case round =>
    obtain ⟨k, hk, rfl, ⟨g, c2, rfl, hg, how⟩, hbel⟩ := hrel
    have hO := Lib.hid how
    have hglt : g < wr.heap.size := (how.1.lt g rfl).2
    clear how
    by_cases hlt : k < es.length
    · obtain ⟨b, o, rfl, ⟨_, hbB⟩, hc⟩ := In.cells (hE.out.below hbel hBB.out) (by omega)
      obtain ⟨d1, d2, d3, d4, d5⟩ := hc k hlt
      clear hc
      have hx := Lib.hid (hall.out _ (List.getElem_mem hlt))
      have hS := Lib.hid (runL_snoc (rs := rs) hlt)
      have hW := Lib.hid (runL_words_take hall.out hH6.out k)
      generalize es[k] = nd at *
      obtain ⟨op, d, a, bb, m⟩ := nd
      have hbs := hbel.size
      have hbel2 := fun o => Lib.hid (hbel.alloc hbel.size o)
      have hO2 := fun o => Lib.hid (hO.out.below ((Below.refl wr.heap.size wr).alloc (Nat.le_refl _) o) hglt)
      clear hbel
      go_wp2_with (fail)
      refine (cdStep_any ⟨op, d, a, bb, m⟩ g 0 c2 _ g (g + 1) _ hx.out hW.out (hO2 _).out.rs (by simp; omega)).mono ?_
      rintro e w3 ⟨g3, c3, rfl, hg3, ho3, hb3⟩
      have hO3 := Lib.hid ho3
      have hbel3 := Lib.hid ((hbel2 _).out.trans (hb3.mono (by simp; omega)))
      simp at hg3
      clear ho3 hb3 d1 d2 d3 d4 d5
      go_wp2
      go_roundw
      case rel => exact ⟨k + 1, by omega, by go_num, ⟨g3, c3, rfl, by omega, by rw [hS.out]; exact hO3.out⟩, hbel3.out⟩
      case measure => simp [intOf]; omega
    · obtain rfl : k = es.length := by omega
      go_wp2
      go_ret
      exact ⟨g, c2, rfl, hg, by have := hO.out; rwa [List.take_length] at this, hbel⟩

def stepR (x : In) (rs : List Int) : List Int := if (goodIn x && regsOk rs) = true then stepL x rs else []
def runR (es : List In) (rs : List Int) : List Int := if (okCode es && regsOk rs) = true then runL es rs else []
theorem regs_words {rs : List Int} (h : regsOk rs = true) : words6 rs := by
  simp only [regsOk, Bool.and_eq_true, beq_iff_eq] at h
  exact h
theorem stepR_len (x : In) (rs : List Int) : (stepR x rs).length ≤ 1048576 := by
  unfold stepR; split
  · rename_i h; simp only [Bool.and_eq_true] at h
    have := (stepL_words h.1 (regs_words h.2)).1; omega
  · simp
theorem runR_len (es : List In) (rs : List Int) : (runR es rs).length ≤ 1048576 := by
  unfold runR; split
  · rename_i h; simp only [Bool.and_eq_true] at h
    have := (runL_words (okCode_all h.1) (regs_words h.2)).1; omega
  · simp
/-- The two results of a call that may leave a list. -/
theorem res_no {F : List Int → Bool → World → Ending → World → Prop} {w w' : World} {R : List Int} (hF : ∀ R ok w e w', (∃ A c, e = .returned (.tuple #[.slice A R.length c, .bool ok]) ∧ OW w' w.heap.size w'.heap.size (.slice A R.length c) R ∧ Below w.heap.size w w') → F R ok w e w') (hR : R = []) (hb : Below w.heap.size w w') :
    F R false w (.returned (.tuple #[.slice none 0 0, .bool false])) w' := by
  subst hR; exact hF _ _ _ _ _ ⟨none, 0, rfl, OW.nil _ _ _, hb⟩
theorem own6_res {w w' : World} {g c : Nat} {R : List Int} (h6 : R.length = 6) (hg : w.heap.size ≤ g) (ho : OW w' g (g + 1) (.slice (some ⟨g, 0, none⟩) 6 c) R) (hb : Below w.heap.size w w') :
    ∃ A c1, Ending.returned (.tuple #[.slice (some ⟨g, 0, none⟩) 6 c, .bool true]) = .returned (.tuple #[.slice A R.length c1, .bool true]) ∧ OW w' w.heap.size w'.heap.size (.slice A R.length c1) R ∧ Below w.heap.size w w' :=
  ⟨_, c, by rw [h6], by rw [h6]; exact (ho.lower hg).more (ho.1.lt g rfl).2, hb⟩

end Go.Proofs.Ythjfedidpjfboaa
