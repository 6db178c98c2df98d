import Derived.Test.YtaaloepoegehkaaDK
import Derived.Test.YtaaloepoegehkaaJ
import Derived.Test.YtaaloepoegehkaaCF
import Derived.WalkKit
import Derived.WalkSpells
import Derived.WalkLawsBesides
import Derived.Lib.Hide
/- IsDesk, both sides. -/
namespace Go.Proofs.Ytaaloepoegehkaa
open Go.RowKit
set_option linter.unusedVariables false
set_option maxRecDepth 100000

def deskR (fr : List Nd) (to : List In) : Bool := treeR fr && okCode to
theorem ruTreeOf_any (L B : Nat) (A : Option Addr) (c : Nat) (es : List Nd) (w : World) (hl : es.length ≤ 1048576) (hes : NS w L B A es) (hB : B ≤ w.heap.size) :
    Calls Try.prog 171 #[.slice A es.length c] w fun e w' => e = .returned (.bool (treeR es)) ∧ Below w.heap.size w w' := by
  have H := Lib.hid (exGood_any L B A c es w hl hes hB)
  cases hg : good es
  · rw [show treeR es = false by simp [treeR, hg]]
    rw [hg] at H
    clear hes hB hg
    go_enter Try.func171, Try.ntmps171
    go_wp2_with (fail)
    refine H.out.mono ?_
    rintro e w2 ⟨rfl, hb⟩
    have hbb := Lib.hid hb
    clear hb
    go_wp2
    go_ret
    exact ⟨rfl, hbb.out⟩
  · rw [show treeR es = tree es by simp [treeR, hg]]
    obtain ⟨_, hl24, hok⟩ := good_len hg
    have H2 := Lib.hid fun (W : World) (hW : Below w.heap.size w W) => exTree_any L B A c es W hl24 (hes.below hW hB) (Nat.le_trans hB hW.size) hok
    rw [hg] at H
    clear hes hB hg hok
    generalize tree es = R at *
    go_enter Try.func171, Try.ntmps171
    go_wp2_with (fail)
    refine H.out.mono ?_
    rintro e w2 ⟨rfl, hb⟩
    have hbb := Lib.hid hb
    clear hb
    go_wp2_with (fail)
    refine (H2.out w2 hbb.out).mono ?_
    rintro e w3 ⟨rfl, hb⟩
    have hbi := Lib.hid (hbb.out.trans (hb.mono hbb.out.size))
    clear hb
    go_wp2
    go_ret
    exact ⟨rfl, hbi.out⟩
set_option maxHeartbeats 2000000 in
theorem coGood_any (L B : Nat) (A1 A2 : Option Addr) (c1 c2 : Nat) (fr : List Nd) (to : List In) (w : World) (hl1 : fr.length ≤ 1048576) (hl2 : to.length ≤ 1048576) (h1 : RS Nd.enc 4 w L B A1 fr) (h2 : RS In.enc 5 w L B A2 to) (hB : B ≤ w.heap.size) :
    Calls Try.prog 102 #[.agg #[.slice A1 fr.length c1, .slice A2 to.length c2]] w fun e w' => e = .returned (.bool (deskR fr to)) ∧ Below w.heap.size w w' := by
  have hT1 := Lib.hid fun (W : World) (hW : Below w.heap.size w W) => ruTreeOf_any L B A1 c1 fr W hl1 (RS.below h1 hW hB).ns (Nat.le_trans hB hW.size)
  have hT2 := Lib.hid fun (W : World) (hW : Below w.heap.size w W) => cdCode_any L B A2 c2 to W hl2 (h2.below hW hB) (Nat.le_trans hB hW.size)
  have hD : Hid (deskR fr to = (treeR fr && okCode to)) := rfl
  clear h1 h2
  generalize deskR fr to = R at *
  generalize treeR fr = T at *
  generalize okCode to = O at *
  obtain ⟨W1, hW1⟩ : ∃ W1, W1 = w.alloc (.cells #[.slice A1 fr.length c1, .slice A2 to.length c2] 48) := ⟨_, rfl⟩
  have b1 : Hid (Below w.heap.size w W1) := by unfold Hid; rw [hW1]; exact (Below.refl _ _).alloc (Nat.le_refl _) _
  have x1 : Hid (DX 48 W1 w.heap.size (.slice A1 fr.length c1) (.slice A2 to.length c2)) := by unfold Hid; rw [hW1]; exact dx_new _ _ _ _
  have e1 := Lib.hid hW1
  obtain ⟨k0, k1⟩ := x1.out.cells
  rw [hW1] at k0 k1
  clear hW1
  cases T
  · go_enter Try.func102, Try.ntmps102
    go_wp2_with (fail)
    rw [← e1.out]
    refine (hT1.out W1 b1.out).mono ?_
    rintro e w2 ⟨rfl, hbel⟩
    have b2 := Lib.hid (b1.out.trans (hbel.mono b1.out.size))
    clear hbel k0 k1
    go_wp2
    go_ret
    exact ⟨by rw [hD.out]; rfl, b2.out⟩
  · go_enter Try.func102, Try.ntmps102
    go_wp2_with (fail)
    rw [← e1.out]
    refine (hT1.out W1 b1.out).mono ?_
    rintro e w2 ⟨rfl, hbel⟩
    have b2 := Lib.hid (b1.out.trans (hbel.mono b1.out.size))
    have x2 := Lib.hid (x1.out.next hbel)
    clear hbel k0 k1
    obtain ⟨k0, k1⟩ := x2.out.cells
    go_wp2_with (fail)
    refine (hT2.out w2 b2.out).mono ?_
    rintro e w3 ⟨rfl, hbel⟩
    have b3 := Lib.hid (b2.out.trans (hbel.mono b2.out.size))
    clear hbel k0 k1
    go_wp2
    go_ret
    exact ⟨by rw [hD.out]; rfl, b3.out⟩
theorem sIsDesk_k (L B : Nat) (A1 A2 : Option Addr) (c1 c2 : Nat) (fr : List Nd) (to : List In) (w : World) (hl1 : fr.length ≤ 1048576) (hl2 : to.length ≤ 1048576) (h1 : RS Nd.enc 4 w L B A1 fr) (h2 : RS In.enc 5 w L B A2 to) (hB : B ≤ w.heap.size) :
    Calls Try.prog 44 #[.agg #[.slice A1 fr.length c1, .slice A2 to.length c2]] w (ResIsDesk (deskR fr to) w) := by
  have hbx := Lib.hid ((Below.refl w.heap.size w).alloc (Nat.le_refl _) (.cells #[.slice A1 fr.length c1, .slice A2 to.length c2] 48))
  have H := Lib.hid (coGood_any L B A1 A2 c1 c2 fr to (w.alloc (.cells #[.slice A1 fr.length c1, .slice A2 to.length c2] 48)) hl1 hl2 (RS.below h1 hbx.out hB) (RS.below h2 hbx.out hB) (Nat.le_trans hB hbx.out.size))
  have x1 := Lib.hid (dx_new 48 w (.slice A1 fr.length c1) (.slice A2 to.length c2))
  clear h1 h2 hB
  generalize deskR fr to = R at *
  obtain ⟨k0, k1⟩ := x1.out.cells
  go_enter Try.func44, Try.ntmps44
  go_wp2_with (fail)
  refine H.out.mono ?_
  rintro e w2 ⟨rfl, hbel⟩
  have b2 := Lib.hid (hbx.out.trans (hbel.mono hbx.out.size))
  clear hbel k0 k1
  go_wp2
  go_ret
  exact ⟨rfl, b2.out⟩
set_option maxHeartbeats 2000000 in
theorem iIsDesk_k (L B : Nat) (A1 A2 : Option Addr) (c1 c2 : Nat) (fr : List Nd) (to : List In) (w : World) (hl1 : fr.length ≤ 1048576) (hl2 : to.length ≤ 1048576) (h1 : RS Nd.enc 4 w L B A1 fr) (h2 : RS In.enc 5 w L B A2 to) (hB : B ≤ w.heap.size) (hc1 : fr.length ≤ c1) (hc2 : to.length ≤ c2) :
    Calls Try.prog 46 #[.agg #[.slice A1 fr.length c1, .slice A2 to.length c2]] w (ResIsDesk (deskR fr to) w) := by
  have hT1 := Lib.hid fun (W : World) (hW : Below w.heap.size w W) => iIsTree_any L B A1 c1 fr W hl1 (RS.below h1 hW hB).ns (Nat.le_trans hB hW.size)
  have hT2 := Lib.hid fun (W : World) (hW : Below w.heap.size w W) => IsCode_any L B A2 c2 to W hl2 (h2.below hW hB) (Nat.le_trans hB hW.size)
  have hD : Hid (deskR fr to = (treeR fr && okCode to)) := rfl
  clear h1 h2
  generalize deskR fr to = R at *
  generalize treeR fr = T at *
  generalize okCode to = O at *
  obtain ⟨W1, hW1⟩ : ∃ W1, W1 = w.alloc (.cells #[.slice A1 fr.length c1, .slice A2 to.length c2] 48) := ⟨_, rfl⟩
  have b1 : Hid (Below w.heap.size w W1) := by unfold Hid; rw [hW1]; exact (Below.refl _ _).alloc (Nat.le_refl _) _
  have x1 : Hid (DX 48 W1 w.heap.size (.slice A1 fr.length c1) (.slice A2 to.length c2)) := by unfold Hid; rw [hW1]; exact dx_new _ _ _ _
  have e1 := Lib.hid hW1
  obtain ⟨k0, k1⟩ := x1.out.cells
  rw [hW1] at k0 k1
  clear hW1
  cases T
  · go_enter Try.func46, Try.ntmps46
    go_wp2_with (fail)
    rw [← e1.out]
    refine (hT1.out W1 b1.out).mono ?_
    rintro e w2 ⟨rfl, hbel⟩
    have b2 := Lib.hid (b1.out.trans (hbel.mono b1.out.size))
    clear hbel k0 k1
    go_wp2
    go_ret
    exact ⟨by rw [hD.out]; rfl, b2.out⟩
  · go_enter Try.func46, Try.ntmps46
    go_wp2_with (fail)
    rw [← e1.out]
    refine (hT1.out W1 b1.out).mono ?_
    rintro e w2 ⟨rfl, hbel⟩
    have b2 := Lib.hid (b1.out.trans (hbel.mono b1.out.size))
    have x2 := Lib.hid (x1.out.next hbel)
    clear hbel k0 k1
    obtain ⟨k0, k1⟩ := x2.out.cells
    go_wp2_with (fail)
    refine (hT2.out w2 b2.out).mono ?_
    rintro e w3 ⟨rfl, hbel⟩
    have b3 := Lib.hid (b2.out.trans (hbel.mono b2.out.size))
    clear hbel k0 k1
    go_wp2
    go_ret
    exact ⟨by rw [hD.out]; rfl, b3.out⟩
end Go.Proofs.Ytaaloepoegehkaa
