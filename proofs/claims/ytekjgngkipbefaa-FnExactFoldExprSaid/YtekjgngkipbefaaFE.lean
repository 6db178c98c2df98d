import Derived.Test.YtekjgngkipbefaaFC
import Derived.Test.YtekjgngkipbefaaFD
import Derived.WalkKit
import Derived.WalkSpells
import Derived.WalkLawsBesides
import Derived.Lib.Hide
/- FoldExpr: the contracts as the law takes them. -/
namespace Go.Proofs.Ytekjgngkipbefaa
open Go.RowKit
set_option linter.unusedVariables false
set_option maxRecDepth 100000

set_option maxHeartbeats 4000000 in
theorem sFoldExpr_k (L B : Nat) (A : Option Addr) (c : Nat) (es : List Nd) (w : World) (hl : es.length ≤ 1048576) (hes : RS Nd.enc 4 w L B A es) (hB : B ≤ w.heap.size) :
    Calls Try.prog 28 #[.slice A es.length c] w (ResFoldExpr (foldR es) (good es) w) := by
  have H := Lib.hid (exGood_any L B A c es w hl hes.ns hB)
  have hE := Lib.hid hes
  have hBB := Lib.hid hB
  clear hes hB
  cases hg : good es
  · have hR : Hid (foldR es = []) := by simp [Hid, foldR, hg]
    rw [hg] at H
    clear hg
    go_enter Try.func28, Try.ntmps28
    go_wp2_with (fail)
    refine H.out.mono ?_
    rintro e w2 ⟨rfl, hb⟩
    have hbb := Lib.hid hb
    clear hb
    go_wp2_with (fail)
    go_ret2
    rw [hR.out]
    exact ⟨none, 0, rfl, OK.nil _ _ _ _, hbb.out⟩
  · obtain ⟨hl1, hl24, hok⟩ := good_len hg
    have hR : Hid (foldR es = keepL (foldOf es) (es.length - 1)) := by unfold Hid foldR; rw [if_pos hg]
    have hOk := Lib.hid hok
    rw [hg] at H
    clear hg hok
    go_enter Try.func28, Try.ntmps28
    go_wp2_with (fail)
    refine H.out.mono ?_
    rintro e w2 ⟨rfl, hb⟩
    have hb2 := Lib.hid hb
    have hX := Lib.hid (exFold_any L B A c es w2 hl1 hl24 (hE.out.below hb hBB.out).ns (hE.out.below hb hBB.out) (Nat.le_trans hBB.out hb.size) hOk.out)
    clear hb
    go_wp2_with (fail)
    refine hX.out.mono ?_
    rintro e w4 ⟨A', c', rfl, ho, hb4⟩
    have ho4 := Lib.hid ho
    have hb5 := Lib.hid (hb2.out.trans (hb4.mono hb2.out.size))
    have hz := hb2.out.size
    clear ho hb4
    go_wp2_with (fail)
    go_ret2
    rw [hR.out]
    exact ⟨A', c', rfl, ho4.out.lower hz, hb5.out⟩
theorem iFoldExpr_k (L B : Nat) (A : Option Addr) (c : Nat) (es : List Nd) (w : World) (hl : es.length ≤ 1048576) (hes : RS Nd.enc 4 w L B A es) (hB : B ≤ w.heap.size) (hc : es.length ≤ c) :
    Calls Try.prog 29 #[.slice A es.length c] w (ResFoldExpr (foldR es) (good es) w) := iFoldExpr_any L B A c es w hl hes.ns hB
end Go.Proofs.Ytekjgngkipbefaa
