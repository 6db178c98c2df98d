import Derived.Test.YtblgiemhdjndfaaJ
import Derived.Test.YtblgiemhdjndfaaI
import Derived.WalkKit
import Derived.WalkSpells
import Derived.WalkLawsBesides
import Derived.Lib.Hide
namespace Go.Proofs.Ytblgiemhdjndfaa
open Go.RowKit
set_option linter.unusedVariables false

/-- What a function with a list of ints and a bool leaves. -/
def IntsRes (w : World) (xs : List Int) (ok : Bool) (e : Ending) (w' : World) : Prop :=
  ∃ A c, e = .returned (.tuple #[.slice A xs.length c, .bool ok]) ∧ OW w' w.heap.size w'.heap.size (.slice A xs.length c) xs ∧ Below w.heap.size w w'
def usesR (es : List Nd) : List Int := if good es = true then uses es else []
theorem usesR_len (es : List Nd) : (usesR es).length ≤ 1048576 := by
  unfold usesR
  cases h : good es
  · simp
  · have := good_len h; simp [show (uses es).length = es.length from usesAt_len es _]; omega

theorem sUsesOf_any (L B : Nat) (A : Option Addr) (c : Nat) (es : List Nd) (w : World) (hl : es.length ≤ 1048576) (hes : NS w L B A es) (hB : B ≤ w.heap.size) :
    Calls Try.prog 38 #[.slice A es.length c] w (IntsRes w (usesR es) (good es)) := by
  have H := Lib.hid (exGood_any L B A c es w hl hes hB)
  have hE := Lib.hid hes
  have hBB := Lib.hid hB
  clear hes hB
  go_enter Try.func38, Try.ntmps38
  go_wp2_with (fail)
  refine H.out.mono ?_
  rintro e w2 ⟨rfl, hb⟩
  have hbb := Lib.hid hb
  clear hb
  cases hg : good es
  · have hR2 : Hid (usesR es = []) := by simp [Hid, usesR, hg]
    go_wp2_with (fail)
    go_ret2
    refine ⟨none, 0, ?_, ?_, hbb.out⟩
    · rw [hR2.out, hg]; rfl
    · rw [hR2.out]; exact OW.nil _ _ _
  · have hR2 : Hid (usesR es = uses es) := by simp [Hid, usesR, hg]
    obtain ⟨_, hl24, hok⟩ := good_len hg
    have hul : Hid ((uses es).length ≤ 1000000) := by rw [Hid, show (uses es).length = es.length from usesAt_len es _]; omega
    have H2 := Lib.hid (exUses_any L B A c es w2 hl24 (hE.out.below hbb.out hBB.out) (Nat.le_trans hBB.out hbb.out.size) (ok_parts hok))
    clear hok
    go_wp2_with (fail)
    refine H2.out.mono ?_
    rintro e w3 ⟨g, rfl, hgg, hib, hb⟩
    have hI := Lib.hid hib
    have hb3 := Lib.hid hb
    clear hib hb
    go_wp2_with (fail)
    go_ret2
    refine ⟨some ⟨g, 0, none⟩, (uses es).length, ?_, ?_, hbb.out.trans (hb3.out.mono hbb.out.size)⟩
    · rw [hR2.out, hg]; rfl
    · rw [hR2.out]; exact OW.ofIB hI.out hul.out (Nat.le_trans hbb.out.size hgg) hI.out.lt

theorem iUsesOf_any (L B : Nat) (A : Option Addr) (c : Nat) (es : List Nd) (w : World) (hl : es.length ≤ 1048576) (hes : NS w L B A es) (hB : B ≤ w.heap.size) :
    Calls Try.prog 39 #[.slice A es.length c] w (IntsRes w (usesR es) (good es)) := by
  have H := Lib.hid (IsExpr_any L B A c es w hl hes hB)
  have hE := Lib.hid hes
  have hBB := Lib.hid hB
  clear hes hB
  go_enter Try.func39, Try.ntmps39
  go_wp2_with (fail)
  refine H.out.mono ?_
  rintro e w2 ⟨rfl, hb⟩
  have hbb := Lib.hid hb
  clear hb
  cases hg : good es
  · have hR2 : Hid (usesR es = []) := by simp [Hid, usesR, hg]
    go_wp2_with (fail)
    go_ret2
    refine ⟨none, 0, ?_, ?_, hbb.out⟩
    · rw [hR2.out, hg]; rfl
    · rw [hR2.out]; exact OW.nil _ _ _
  · have hR2 : Hid (usesR es = uses es) := by simp [Hid, usesR, hg]
    obtain ⟨_, hl24, hok⟩ := good_len hg
    have hul : Hid ((uses es).length ≤ 1000000) := by rw [Hid, show (uses es).length = es.length from usesAt_len es _]; omega
    have H2 := Lib.hid (usesOf_any L B A c es w2 hl24 (hE.out.below hbb.out hBB.out) (Nat.le_trans hBB.out hbb.out.size) (ok_parts hok))
    clear hok
    go_wp2_with (fail)
    refine H2.out.mono ?_
    rintro e w3 ⟨g, rfl, hgg, hib, hb⟩
    have hI := Lib.hid hib
    have hb3 := Lib.hid hb
    clear hib hb
    go_wp2_with (fail)
    go_ret2
    refine ⟨some ⟨g, 0, none⟩, (uses es).length, ?_, ?_, hbb.out.trans (hb3.out.mono hbb.out.size)⟩
    · rw [hR2.out, hg]; rfl
    · rw [hR2.out]; exact OW.ofIB hI.out hul.out (Nat.le_trans hbb.out.size hgg) hI.out.lt
end Go.Proofs.Ytblgiemhdjndfaa
