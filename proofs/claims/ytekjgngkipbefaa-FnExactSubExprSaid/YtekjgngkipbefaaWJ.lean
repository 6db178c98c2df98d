import Derived.Test.YtekjgngkipbefaaWI
import Derived.Test.YtekjgngkipbefaaWE
import Derived.WalkKit
import Derived.WalkSpells
import Derived.WalkLawsBesides
import Derived.Lib.Hide
/- SubExpr: the program. -/
namespace Go.Proofs.Ytekjgngkipbefaa
open Go.RowKit
set_option linter.unusedVariables false
set_option maxRecDepth 100000

set_option maxHeartbeats 2000000 in
theorem iSubExpr_any (L B : Nat) (A : Option Addr) (c : Nat) (es : List Nd) (i : Int) (w : World) (hl : es.length ≤ 1048576) (hes : NS w L B A es) (hB : B ≤ w.heap.size) (hcap : es.length ≤ c) :
    Calls Try.prog 20 #[.slice A es.length c, .int .i64 i] w (ResSubExpr (subR es i) (subOk es i) w) := by
  have H := Lib.hid (IsExpr_any L B A c es w hl hes hB)
  have hE := Lib.hid hes
  have hBB := Lib.hid hB
  clear hes hB
  cases hg : good es
  · have hR : Hid (subR es i = []) := by simp [Hid, subR, subOk, hg]
    have hK : Hid (subOk es i = false) := by simp [Hid, subOk, hg]
    rw [hg] at H
    clear hg
    go_enter Try.func20, Try.ntmps20
    go_wp2_with (fail)
    refine H.out.mono ?_
    rintro e w2 ⟨rfl, hb⟩
    have hbb := Lib.hid hb
    clear hb
    go_wp2_with (fail)
    go_ret2
    rw [hR.out, hK.out]
    exact ⟨none, 0, rfl, OK.nil _ _ _ _, hbb.out⟩
  · obtain ⟨hl1, hl24, hok⟩ := good_len hg
    have hG := Lib.hid hg
    have hOk := Lib.hid hok
    rw [hg] at H
    clear hg hok
    by_cases h0 : i < 0
    · have hK : Hid (subOk es i = false) := by
        unfold Hid subOk; cases hr : inR i 0 ((es.length : Int) - 1)
        · simp
        · have := (inR_iff _ _ _).1 hr; omega
      have hR : Hid (subR es i = []) := by unfold Hid subR; rw [hK.out]; rfl
      go_enter Try.func20, Try.ntmps20
      go_wp2_with (fail)
      refine H.out.mono ?_
      rintro e w2 ⟨rfl, hb⟩
      have hbb := Lib.hid hb
      clear hb
      go_wp2_with (fail)
      go_ret2
      rw [hR.out, hK.out]
      exact ⟨none, 0, rfl, OK.nil _ _ _ _, hbb.out⟩
    · obtain ⟨q, rfl⟩ := Int.eq_ofNat_of_zero_le (by omega : 0 ≤ i)
      have q0 : (0 : Int) ≤ (q : Int) := by omega
      by_cases h1 : q < es.length
      · have hr : inR (q : Int) 0 ((es.length : Int) - 1) = true := (inR_iff _ _ _).2 ⟨by omega, by omega⟩
        have hK : Hid (subOk es (q : Int) = true) := by simp [Hid, subOk, hr, hG.out]
        have hR : Hid (subR es (q : Int) = keepL es q) := by simp [Hid, subR, hK.out]
        have q1 : (q : Int) < (es.length : Int) := by omega
        clear hr
        go_enter Try.func20, Try.ntmps20
        go_wp2_with (fail)
        refine H.out.mono ?_
        rintro e w2 ⟨rfl, hb⟩
        have hb2 := Lib.hid hb
        have hX := Lib.hid (subExpr_any L B A c q es w2 hl24 hcap h1 (hE.out.below hb hBB.out) (Nat.le_trans hBB.out hb.size) hOk.out)
        clear hb
        go_wp2_with (fail)
        refine hX.out.mono ?_
        rintro e w4 ⟨A', c', rfl, ho, hb4⟩
        have ho4 := Lib.hid ho
        have hb5 := Lib.hid (hb2.out.trans (hb4.mono hb2.out.size))
        have hz := hb2.out.size
        clear ho hb4
        go_wp2_with (fail)
        go_ret2
        rw [hR.out, hK.out]
        exact ⟨A', c', rfl, ho4.out.lower hz, hb5.out⟩
      · have hK : Hid (subOk es (q : Int) = false) := by
          unfold Hid subOk; cases hr : inR (q : Int) 0 ((es.length : Int) - 1)
          · simp
          · have := (inR_iff _ _ _).1 hr; omega
        have hR : Hid (subR es (q : Int) = []) := by unfold Hid subR; rw [hK.out]; rfl
        have q1 : (es.length : Int) ≤ (q : Int) := by omega
        go_enter Try.func20, Try.ntmps20
        go_wp2_with (fail)
        refine H.out.mono ?_
        rintro e w2 ⟨rfl, hb⟩
        have hbb := Lib.hid hb
        clear hb
        go_wp2_with (fail)
        go_ret2
        rw [hR.out, hK.out]
        exact ⟨none, 0, rfl, OK.nil _ _ _ _, hbb.out⟩
theorem subR_len (es : List Nd) (i : Int) : (subR es i).length ≤ 1048576 := by
  unfold subR
  split
  · rename_i h
    unfold subOk at h
    simp only [Bool.and_eq_true] at h
    have hg := (good_len h.1).2.1
    have h4 := (inR_iff _ _ _).1 h.2
    have := ke_len es (need es i.toNat) (i.toNat + 1) (i.toNat + 1)
    unfold keepL; omega
  · simp
theorem sSubExpr_k (L B : Nat) (A : Option Addr) (c : Nat) (es : List Nd) (i : Int) (w : World) (hl : es.length ≤ 1048576) (hes : RS Nd.enc 4 w L B A es) (hB : B ≤ w.heap.size) :
    Calls Try.prog 18 #[.slice A es.length c, .int .i64 i] w (ResSubExpr (subR es i) (subOk es i) w) := sSubExpr_any L B A c es i w hl hes.ns hB
theorem iSubExpr_k (L B : Nat) (A : Option Addr) (c : Nat) (es : List Nd) (i : Int) (w : World) (hl : es.length ≤ 1048576) (hes : RS Nd.enc 4 w L B A es) (hB : B ≤ w.heap.size) (hc : es.length ≤ c) :
    Calls Try.prog 20 #[.slice A es.length c, .int .i64 i] w (ResSubExpr (subR es i) (subOk es i) w) := iSubExpr_any L B A c es i w hl hes.ns hB hc
end Go.Proofs.Ytekjgngkipbefaa
