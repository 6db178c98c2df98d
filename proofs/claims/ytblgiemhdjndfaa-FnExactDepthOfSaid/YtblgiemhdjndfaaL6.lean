import Derived.Test.YtblgiemhdjndfaaR2
import Derived.Test.YtblgiemhdjndfaaH2
import Derived.WalkKit
import Derived.WalkSpells
import Derived.WalkLawsBesides
import Derived.Lib.Hide
namespace Go.Proofs.Ytblgiemhdjndfaa
open Go.RowKit
set_option linter.unusedVariables false

set_option maxHeartbeats 1000000 in
theorem lawDepthOf (L B : Nat) (A : Option Addr) (c : Nat) (es : List Nd) (w : World) (hl : es.length ≤ 9223372036854775807) (hes : NS w L B A es) (hB : B ≤ w.heap.size) (hs : ∀ n ∈ es, n.op.size ≤ 9223372036854775807) :
    Calls Try.prog 10 #[.slice A es.length c] w fun e w' => e = .returned (.bool true) ∧ Below w.heap.size w w' := by
  have hE := Lib.hid hes
  have H1 := Lib.hid (szNodeS_any L B A c es w hl hes hB hs)
  have hBB := Lib.hid hB
  clear hes hs hB
  go_enter Try.func10, Try.ntmps10
  go_wp2_with (fail)
  refine H1.out.mono ?_
  rintro e w1 ⟨r, rfl, _, hr, _, hb1⟩
  have b1 := Lib.hid hb1
  clear hb1
  by_cases hr0 : 0 ≤ r
  · have hlen : es.length ≤ 1048576 := by have := hr hr0; omega
    clear hr
    go_wp2_with (fail)
    refine (toNodeS_any L B A c es _ hlen (hE.out.below b1.out hBB.out) (Nat.le_trans hBB.out b1.out.size)).mono ?_
    rintro e w2 ⟨g2, rfl, hg2, hn2, hb2⟩
    have n2 := Lib.hid hn2
    have b2 := Lib.hid (b1.out.trans (hb2.mono b1.out.size))
    clear hn2 hb2
    go_wp2_with (fail)
    refine (sDepthOf_any _ _ _ _ es _ hlen n2.out.toNS n2.out.lt).mono ?_
    rintro e w3 ⟨rfl, hb3⟩
    have b3 := Lib.hid (b2.out.trans (hb3.mono b2.out.size))
    clear hb3
    go_wp2_with (fail)
    refine (toNodeS_any L B A c es _ hlen (hE.out.below b3.out hBB.out) (Nat.le_trans hBB.out b3.out.size)).mono ?_
    rintro e w4 ⟨g4, rfl, hg4, hn4, hb4⟩
    have n4 := Lib.hid hn4
    have b4 := Lib.hid (b3.out.trans (hb4.mono b3.out.size))
    clear hn4 hb4
    go_wp2_with (fail)
    refine (iDepthOf_any _ _ _ _ es _ hlen n4.out.toNS n4.out.lt).mono ?_
    rintro e w5 ⟨rfl, hb5⟩
    have b5 := Lib.hid (b4.out.trans (hb5.mono b4.out.size))
    have n5 := Lib.hid (n4.out.below hb5 n4.out.lt)
    clear hb5
    
    generalize depR es = xv
    generalize good es = gd
    have e5 : (gd != gd) = false := by simp
    have e6 : (xv != xv) = false := by simp
    go_wp2_with (fail)
    refine (toNodeS_any L B A c es _ hlen (hE.out.below b5.out hBB.out) (Nat.le_trans hBB.out b5.out.size)).mono ?_
    rintro e w6 ⟨g6, rfl, hg6, hn6, hb6⟩
    have n6 := Lib.hid hn6
    have n6' := Lib.hid (n5.out.below hb6 n5.out.lt)
    have b6 := Lib.hid (b5.out.trans (hb6.mono b5.out.size))
    clear hn6 hb6
    go_wp2_with (fail)
    refine (eqNodeS_any _ _ _ _ _ _ _ _ _ _ es es _ rfl rfl hlen hlen n6'.out.toNS n6.out.toNS n6'.out.lt n6.out.lt rfl).mono ?_
    rintro e w7 ⟨rfl, hb7⟩
    go_wp2
    go_ret
    exact ⟨rfl, b6.out.trans (hb7.mono b6.out.size)⟩
  · go_wp2
    go_ret
    exact ⟨rfl, b1.out⟩
end Go.Proofs.Ytblgiemhdjndfaa
