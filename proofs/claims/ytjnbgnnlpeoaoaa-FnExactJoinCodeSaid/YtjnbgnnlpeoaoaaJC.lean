import Derived.Test.YtjnbgnnlpeoaoaaJB
import Derived.Test.YtjnbgnnlpeoaoaaLawC
namespace Go.Proofs.Ytjnbgnnlpeoaoaa
open Go.RowKit
set_option linter.unusedVariables false
set_option maxRecDepth 100000

def joinOk (a b : List In) : Bool := okCode a && okCode b && decide (a.length + b.length ≤ 40)
def joinR (a b : List In) : List In := if joinOk a b = true then a ++ b else []
theorem joinR_len (a b : List In) : (joinR a b).length ≤ 1048576 := by
  unfold joinR; split
  · rename_i h; simp only [joinOk, Bool.and_eq_true, decide_eq_true_eq] at h
    have := h.2; rw [List.length_append]; omega
  · simp
theorem joinR_no {a b : List In} (h : joinOk a b = false) : joinR a b = [] := by simp [joinR, h]

set_option maxHeartbeats 4000000 in
theorem iJoin_any (L0 B0 : Nat) (A0 : Option Addr) (c0 : Nat) (xs : List In) (L1 B1 : Nat) (A1 : Option Addr) (c1 : Nat) (ys : List In) (w : World) (hl0 : xs.length ≤ 1048576) (hx : RS In.enc 5 w L0 B0 A0 xs) (hB0 : B0 ≤ w.heap.size) (hl1 : ys.length ≤ 1048576) (hy : RS In.enc 5 w L1 B1 A1 ys) (hB1 : B1 ≤ w.heap.size) :
    Calls Try.prog 65 #[.slice A0 xs.length c0, .slice A1 ys.length c1] w (ResJoinCode (joinR xs ys) (joinOk xs ys) w) := by
  have H := Lib.hid (IsCode_any L0 B0 A0 c0 xs w hl0 hx hB0)
  have hX := Lib.hid hx
  have hY := Lib.hid hy
  have z0 := Lib.hid hB0
  have z1 := Lib.hid hB1
  clear hx hy hB0 hB1
  go_enter Try.func65, Try.ntmps65
  go_wp2_with (fail)
  refine H.out.mono ?_
  rintro e w2 ⟨rfl, hb⟩
  have hbb := Lib.hid hb
  have hz := Lib.hid hb.size
  clear hb
  cases hg : okCode xs
  · have hK : Hid (joinOk xs ys = false) := by simp [Hid, joinOk, hg]
    have hR := Lib.hid (joinR_no hK.out)
    go_wp2
    go_ret2
    rw [hR.out, hK.out]; exact ⟨none, 0, rfl, OK.nil _ _ _ _, hbb.out⟩
  have hG := Lib.hid hg
  clear hg
  have hlen := Lib.hid (okCode_len hG.out)
  have H2 := Lib.hid (IsCode_any L1 B1 A1 c1 ys w2 hl1 (hY.out.below hbb.out z1.out) (Nat.le_trans z1.out hz.out))
  go_wp2_with (fail)
  refine H2.out.mono ?_
  rintro e w3 ⟨rfl, hb⟩
  have hbb3 := Lib.hid (hbb.out.trans (hb.mono hz.out))
  have hz3 := Lib.hid (Nat.le_trans hz.out hb.size)
  clear hb
  cases hg : okCode ys
  · have hK : Hid (joinOk xs ys = false) := by simp [Hid, joinOk, hg]
    have hR := Lib.hid (joinR_no hK.out)
    go_wp2
    go_ret2
    rw [hR.out, hK.out]; exact ⟨none, 0, rfl, OK.nil _ _ _ _, hbb3.out⟩
  have hG1 := Lib.hid hg
  clear hg
  have hlen1 := Lib.hid (okCode_len hG1.out)
  by_cases hc : xs.length + ys.length ≤ 40
  · have hK : Hid (joinOk xs ys = true) := by simp only [Hid, joinOk, hG.out, hG1.out, Bool.true_and, decide_eq_true_eq]; exact hc
    have hR : Hid (joinR xs ys = xs ++ ys) := by rw [Hid, joinR, if_pos hK.out]
    have hgt : ¬ ((xs.length : Int) + ys.length > 40) := by omega
    have hX3 := Lib.hid (hX.out.below hbb3.out z0.out)
    have hY3 := Lib.hid (hY.out.below hbb3.out z1.out)
    go_wp2_with (fail)
    have hbA := fun o => (Below.refl w3.heap.size w3).alloc (Nat.le_refl _) o
    have zz0 : B0 ≤ w3.heap.size := Nat.le_trans z0.out hz3.out
    have zz1 : B1 ≤ w3.heap.size := Nat.le_trans z1.out hz3.out
    refine (ConcatC_any L0 B0 L1 B1 w3.heap.size A0 A1 c0 c1 xs ys _ (hX3.out.below (hbA _) zz0) (hY3.out.below (hbA _) zz1) (by simp; omega) (by simp; omega) (by go_simp) (by go_simp) (by simp) hl0 hl1).mono ?_
    rintro e w4 ⟨A, c, rfl, ho, hb⟩
    have hO := Lib.hid (ho.lower (Nat.le_trans hz3.out (by simp)))
    have hB4 := Lib.hid (hbb3.out.trans ((hbA _).trans (hb.mono (by simp)) |>.mono hz3.out))
    clear ho hb hbA
    generalize xs ++ ys = Z at *
    go_wp2
    go_ret2
    rw [hR.out, hK.out]; exact ⟨A, c, rfl, hO.out, hB4.out⟩
  · have hK : Hid (joinOk xs ys = false) := by simp only [Hid, joinOk, hG.out, hG1.out, Bool.true_and, decide_eq_false_iff_not]; exact hc
    have hR := Lib.hid (joinR_no hK.out)
    have hgt : ((xs.length : Int) + ys.length > 40) := by omega
    go_wp2
    go_ret2
    rw [hR.out, hK.out]; exact ⟨none, 0, rfl, OK.nil _ _ _ _, hbb3.out⟩
set_option maxHeartbeats 4000000 in
theorem sJoin_any (L0 B0 : Nat) (A0 : Option Addr) (c0 : Nat) (xs : List In) (L1 B1 : Nat) (A1 : Option Addr) (c1 : Nat) (ys : List In) (w : World) (hl0 : xs.length ≤ 1048576) (hx : RS In.enc 5 w L0 B0 A0 xs) (hB0 : B0 ≤ w.heap.size) (hl1 : ys.length ≤ 1048576) (hy : RS In.enc 5 w L1 B1 A1 ys) (hB1 : B1 ≤ w.heap.size) :
    Calls Try.prog 64 #[.slice A0 xs.length c0, .slice A1 ys.length c1] w (ResJoinCode (joinR xs ys) (joinOk xs ys) w) := by
  have H := Lib.hid (cdCode_any L0 B0 A0 c0 xs w hl0 hx hB0)
  have hX := Lib.hid hx
  have hY := Lib.hid hy
  have z0 := Lib.hid hB0
  have z1 := Lib.hid hB1
  clear hx hy hB0 hB1
  go_enter Try.func64, Try.ntmps64
  go_wp2_with (fail)
  refine H.out.mono ?_
  rintro e w2 ⟨rfl, hb⟩
  have hbb := Lib.hid hb
  have hz := Lib.hid hb.size
  clear hb
  cases hg : okCode xs
  · have hK : Hid (joinOk xs ys = false) := by simp [Hid, joinOk, hg]
    have hR := Lib.hid (joinR_no hK.out)
    go_wp2
    go_ret2
    rw [hR.out, hK.out]; exact ⟨none, 0, rfl, OK.nil _ _ _ _, hbb.out⟩
  have hG := Lib.hid hg
  clear hg
  have hlen := Lib.hid (okCode_len hG.out)
  have H2 := Lib.hid (cdCode_any L1 B1 A1 c1 ys w2 hl1 (hY.out.below hbb.out z1.out) (Nat.le_trans z1.out hz.out))
  go_wp2_with (fail)
  refine H2.out.mono ?_
  rintro e w3 ⟨rfl, hb⟩
  have hbb3 := Lib.hid (hbb.out.trans (hb.mono hz.out))
  have hz3 := Lib.hid (Nat.le_trans hz.out hb.size)
  clear hb
  cases hg : okCode ys
  · have hK : Hid (joinOk xs ys = false) := by simp [Hid, joinOk, hg]
    have hR := Lib.hid (joinR_no hK.out)
    go_wp2
    go_ret2
    rw [hR.out, hK.out]; exact ⟨none, 0, rfl, OK.nil _ _ _ _, hbb3.out⟩
  have hG1 := Lib.hid hg
  clear hg
  have hlen1 := Lib.hid (okCode_len hG1.out)
  by_cases hc : xs.length + ys.length ≤ 40
  · have hK : Hid (joinOk xs ys = true) := by simp only [Hid, joinOk, hG.out, hG1.out, Bool.true_and, decide_eq_true_eq]; exact hc
    have hR : Hid (joinR xs ys = xs ++ ys) := by rw [Hid, joinR, if_pos hK.out]
    have hgt : ¬ ((xs.length : Int) + ys.length > 40) := by omega
    have hX3 := Lib.hid (hX.out.below hbb3.out z0.out)
    have hY3 := Lib.hid (hY.out.below hbb3.out z1.out)
    obtain ⟨i0, hi, hq0, hq1, hq2⟩ := info_parts Try.infoInstr
    have hb0 := Lib.hid ((Below.refl w3.heap.size w3).alloc (Nat.le_refl _) (.cells #[] 26))
    have zz0 : B0 ≤ w3.heap.size := Nat.le_trans z0.out hz3.out
    have zz1 : B1 ≤ w3.heap.size := Nat.le_trans z1.out hz3.out
    have hown := Lib.hid (World.ownsRow_made (base := w3.heap.size) (e := 26) (size := 5) w3 #[] 0 (Nat.le_refl _) (by unfold maxLen; omega) (by simp))
    have hsz0 := Lib.hid hb0.out.size
    have hLl : Hid ((xs ++ ys).length = xs.length + ys.length) := List.length_append
    go_wp2_with (first | (at_builtin; refine wpList_append_src rfl (.tmp 22) (.tmp 23) 32 rfl w3.heap.size 26 i0 _ 5 48 Try.underlying32 hi hq0 hq1 hq2 rfl (by decide) _ 0 [] rfl hown.out A0 xs.length c0 (xs.flatMap In.enc) rfl (kflat_len In.hk xs) ((hX3.out.below hb0.out zz0).news In.hk) (five_ones xs) (by unfold maxLen; omega) (by omega) hsz0.out ?_; intro v4 w4 hown4 hgrow4 _; simp only [Nat.zero_add, List.nil_append] at hown4; have hb4 := Lib.hid (hb0.out.grown hgrow4 hsz0.out (fun k hk => (by cases hk; exact Nat.le_refl _))); have hO4 := Lib.hid hown4; clear hown4 hgrow4) | (at_builtin; refine wpList_append_src rfl (.tmp 24) (.tmp 25) 32 rfl w3.heap.size 26 i0 _ 5 48 Try.underlying32 hi hq0 hq1 hq2 rfl (by decide) _ xs.length _ rfl hO4.out A1 ys.length c1 (ys.flatMap In.enc) rfl (kflat_len In.hk ys) ((hY3.out.below hb4.out zz1).news In.hk) (five_ones ys) (by unfold maxLen; omega) (by omega) hb4.out.size ?_; intro v5 w5 hown5 hgrow5 _; rw [← List.flatMap_append] at hown5; have hO5 := Lib.hid ((OK.ofRow hown5 hLl.out.symm).lower hz3.out); have hB5 := Lib.hid (hbb3.out.trans ((hb4.out.grown hgrow5 hb4.out.size (fun k hk => (hO4.out.lt k hk).1)).mono hz3.out)); clear hown5 hgrow5; obtain ⟨A, c, rfl, _⟩ := OK.form In.hk hO5.out; generalize xs ++ ys = Z at *))
    go_ret2
    rw [hR.out, hK.out]; exact ⟨A, c, rfl, hO5.out, hB5.out⟩
  · have hK : Hid (joinOk xs ys = false) := by simp only [Hid, joinOk, hG.out, hG1.out, Bool.true_and, decide_eq_false_iff_not]; exact hc
    have hR := Lib.hid (joinR_no hK.out)
    have hgt : ((xs.length : Int) + ys.length > 40) := by omega
    go_wp2
    go_ret2
    rw [hR.out, hK.out]; exact ⟨none, 0, rfl, OK.nil _ _ _ _, hbb3.out⟩
end Go.Proofs.Ytjnbgnnlpeoaoaa
