import Derived.Test.YtekjgngkipbefaaWD
import Derived.Test.YtekjgngkipbefaaG
import Derived.Test.YtekjgngkipbefaaCA
import Derived.Test.YtekjgngkipbefaaLawU
import Derived.WalkKit
import Derived.WalkSpells
import Derived.WalkLawsBesides
import Derived.Lib.Hide
/- SubExpr: the model. -/
namespace Go.Proofs.Ytekjgngkipbefaa
open Go.RowKit
set_option linter.unusedVariables false
set_option maxRecDepth 100000

def subOk (es : List Nd) (i : Int) : Bool := good es && inR i 0 ((es.length : Int) - 1)
def subR (es : List Nd) (i : Int) : List Nd := if subOk es i then keepL es i.toNat else []

set_option maxHeartbeats 8000000 in
theorem sSubExpr_any (L B : Nat) (A : Option Addr) (c : Nat) (es : List Nd) (i : Int) (w : World) (hl : es.length ≤ 1048576) (hes : NS w L B A es) (hB : B ≤ w.heap.size) :
    Calls Try.prog 18 #[.slice A es.length c, .int .i64 i] w (ResSubExpr (subR es i) (subOk es i) w) := by
  have H := Lib.hid (exGood_any L B A c es w hl hes hB)
  have hE := Lib.hid hes
  have hBB := Lib.hid hB
  clear hes hB
  cases hg : good es
  · have hR : Hid (subR es i = []) := by simp [Hid, subR, subOk, hg]
    have hK : Hid (subOk es i = false) := by simp [Hid, subOk, hg]
    rw [hg] at H
    clear hg
    go_enter Try.func18, Try.ntmps18
    go_wp2_with (fail)
    refine H.out.mono ?_
    rintro e w2 ⟨rfl, hb⟩
    go_wp2_with (fail)
    go_ret2
    rw [hR.out, hK.out]
    exact ⟨none, 0, rfl, OK.nil _ _ _ _, hb⟩
  · obtain ⟨hl1, hl24, hok⟩ := good_len hg
    have hG := Lib.hid hg
    have hOk := Lib.hid hok
    rw [hg] at H
    clear hg hok

    cases hr : inR i 0 ((es.length : Int) - 1)
    · have hR : Hid (subR es i = []) := by simp [Hid, subR, subOk, hr]
      have hK : Hid (subOk es i = false) := by simp [Hid, subOk, hr]
      have hIn := Lib.hid fun W => l1In_r i 0 ((es.length : Int) - 1) W
      rw [hr] at hIn
      clear hr
      go_enter Try.func18, Try.ntmps18
      go_wp2_with (fail)
      refine H.out.mono ?_
      rintro e w2 ⟨rfl, hb⟩
      have hb2 := Lib.hid hb
      clear hb
      go_wp2_with (fail)
      refine (hIn.out _).mono ?_
      rintro e w3 ⟨rfl, rfl⟩
      go_wp2_with (fail)
      go_ret2
      rw [hR.out, hK.out]
      exact ⟨none, 0, rfl, OK.nil _ _ _ _, hb2.out⟩
    · have hK : Hid (subOk es i = true) := by simp [Hid, subOk, hr, hG.out]
      have hR : Hid (subR es i = keepL es i.toNat) := by simp [Hid, subR, hK.out]
      have hIn := Lib.hid fun W => l1In_r i 0 ((es.length : Int) - 1) W
      have h4 := (inR_iff _ _ _).1 hr
      rw [hr] at hIn
      clear hr
      obtain ⟨q, rfl⟩ := Int.eq_ofNat_of_zero_le h4.1
      have hq : q < es.length := by omega
      rw [Int.toNat_natCast] at hR
      go_enter Try.func18, Try.ntmps18
      go_wp2_with (fail)
      refine H.out.mono ?_
      rintro e w2 ⟨rfl, hb⟩
      have hb2 := Lib.hid hb
      have hX := Lib.hid (exKeep_any L B A c q es w2 hl24 hq (hE.out.below hb hBB.out) (Nat.le_trans hBB.out hb.size) hOk.out)
      clear hb
      go_wp2_with (fail)
      refine (hIn.out _).mono ?_
      rintro e w3 ⟨rfl, rfl⟩
      go_wp2_with (fail)
      refine hX.out.mono ?_
      rintro e w4 ⟨A', c', rfl, ho, hb4⟩
      have ho4 := Lib.hid ho
      have hb5 := Lib.hid (hb2.out.trans (hb4.mono hb2.out.size))
      have hz := hb2.out.size
      clear ho hb4
      go_wp2_with (fail)
      go_ret2
      rw [hR.out, hK.out]
      exact ⟨A', c', rfl, ho4.out.lower hz, hb5.out⟩
end Go.Proofs.Ytekjgngkipbefaa
