/- Texts of this proof, one behind the other: JA, JB, JC, LawFC, OC, OB. -/
import Derived.Test.YtmhdijklindipaaZ10
import Derived.WalkKit
import Derived.WalkSpells
import Derived.WalkLawsBesides
import Derived.Lib.Hide
import Derived.Lib.Walk
import Derived.Lib.SliceRun
import Derived.Lib.AppendZerosOnto
import Derived.Outline
import Derived.Test.YtmhdijklindipaaLawC
import Derived.Test.YtmhdijklindipaaZ8
import Derived.Test.YtmhdijklindipaaZ2
import Derived.Test.YtmhdijklindipaaZ3
import Derived.Test.YtmhdijklindipaaCF
import Derived.Deep.QuietTactic
import Derived.BigQuiet
import Derived.Deep.RegionLaw
import Derived.Deep.RegionHeld3
import Derived.Test.YtmhdijklindipaaKMInstr
import Derived.ProofKit
import Derived.OpenShut
import Derived.ShutString
import Derived.ChangeOld
import Derived.Below
import Derived.Deep.Slices
import Derived.Deep.Fields
import Derived.Test.YtmhdijklindipaaRows
import Derived.Test.YtmhdijklindipaaDR1
namespace Go.Proofs.Ytmhdijklindipaa
open Go.RowKit
set_option linter.unusedVariables false
set_option maxRecDepth 100000

abbrev zAgg : Value := .agg #[.string ByteArray.empty, .int .i64 0, .int .i64 0, .int .i64 0, .int .i64 0]
theorem own_empty {w : World} {lo g cap : Nat} {cur : Array Value} (h : w.heap[g]? = some (.cells cur 56 (0, 0))) (hlo : lo ≤ g) (h2 : cap ≤ maxLen) (h3 : cur.size = cap * 5) :
    OK In.enc 5 56 w lo (g + 1) (.slice (some ⟨g, 0, none⟩) 0 cap) ([] : List In) :=
  ⟨⟨rfl, .inr ⟨g, cap, cur, rfl, hlo, h, Nat.zero_le _, h2, h3, rfl⟩⟩, fun j hj => by simp [Value.ownBlock] at hj; omega⟩
set_option maxHeartbeats 2000000 in
/-- slices.Grow of nil code: an own slice without elements. -/
theorem GrowC_any (m : Int) (n : Nat) (w : World) (hm : m = n) (hl : n ≤ 2097152) :
    Calls Try.prog 235 #[.slice none 0 0, .int .i64 m] w (FreshInstr w []) := by
  subst hm
  obtain ⟨i0, hi, hz0, hz1, hz2⟩ := info_parts Try.infoInstr
  by_cases h0 : n = 0
  · subst h0
    go_enter Try.func235, Try.ntmps235
    go_wp2
    go_ret
    exact ⟨none, 0, rfl, OK.nil _ _ _ _, Below.refl _ _⟩
  have h1 : ¬ ((n : Int) < 0) := by omega
  have h4 : (0 : Int) < n := by omega
  have hG := grownCap_ge w (0 + n) 0 56
  have hGm := grownCap_le_maxLen w (0 + n) 0 56 (by unfold maxLen; omega)
  have hrz : ∀ ty, (Builtin.append_ #[42, 3] ty #[.slice none 0 0, .int .i64 (n : Int)]).run Try.prog w =
      .ok (.slice (some ⟨w.heap.size, 0, none⟩) (0 + n) (grownCap w (0 + n) 0 56)) (w.drew.alloc (.cells (([] : List Value).toArray ++ Builtin.zeroCells zAgg.cells n ++ Builtin.zeroCells zAgg.cells (grownCap w (0 + n) 0 56 - (0 + n))) 56)) := fun ty =>
    Lib.run_append_grow_zeros w 42 3 ty 56 i0 zAgg .i64 .i64 Try.underlying42 Try.underlying3 hi hz0 none 0 0 [] (run_firstCells_none w.drew i0.size 0 0 0) n (by omega) (by rw [hz1]; omega) (by omega) (by omega) (by rw [hz2]; omega) (by rw [hz2]; exact growslice_fits (by omega) (by omega))
  obtain ⟨G, hGe⟩ : ∃ G, G = grownCap w (0 + n) 0 56 := ⟨_, rfl⟩
  rw [← hGe] at hrz hG hGm
  have hsz : ((([] : List Value).toArray ++ Builtin.zeroCells zAgg.cells n ++ Builtin.zeroCells zAgg.cells (G - (0 + n))).size) = G * 5 := by
    rw [Array.size_append, Array.size_append, size_zeroCells, size_zeroCells]
    have : zAgg.cells.size = 5 := rfl
    rw [this]; simp; omega
  generalize (([] : List Value).toArray ++ Builtin.zeroCells zAgg.cells n ++ Builtin.zeroCells zAgg.cells (G - (0 + n))) = cur at *
  have hres : Hid (OK In.enc 5 56 (w.drew.alloc (.cells cur 56)) w.heap.size (w.drew.alloc (.cells cur 56)).heap.size (.slice (some ⟨w.heap.size, 0, none⟩) 0 G) ([] : List In)) := by
    have := own_empty (w := w.drew.alloc (.cells cur 56)) (lo := w.heap.size) (g := w.heap.size) (cap := G) (cur := cur) (heap_alloc_new w.drew _) (Nat.le_refl _) hGm hsz
    exact this.more (by simp)
  have hbel : Hid (Below w.heap.size w (w.drew.alloc (.cells cur 56))) := ((Below.refl w.heap.size w).drew).alloc (Nat.le_refl _) _
  have hGm' : G ≤ 9223372036854775807 := by unfold maxLen at hGm; omega
  have hR := Lib.hid hrz
  clear hrz hsz hGe hGm hi hz0 hz1 hz2
  go_enter Try.func235, Try.ntmps235
  go_wp2_with (at_builtin; refine Lib.wpList_append_run _ rfl _ _ _ _ rfl _ _ rfl rfl _ _ (hR.out _) ?_)
  go_ret
  exact ⟨_, _, rfl, hres.out, hbel.out⟩
end Go.Proofs.Ytmhdijklindipaa

namespace Go.Proofs.Ytmhdijklindipaa
open Go.RowKit
set_option linter.unusedVariables false
set_option maxRecDepth 100000

set_option maxHeartbeats 4000000 in
/-- slices.Concat of two lists of code. -/
theorem ConcatC_any (L0 B0 L1 B1 g : Nat) (A0 A1 : Option Addr) (c0 c1 : Nat) (xs ys : List In) (w : World) (hx : RS In.enc 5 w L0 B0 A0 xs) (hy : RS In.enc 5 w L1 B1 A1 ys) (hB0 : B0 ≤ w.heap.size) (hB1 : B1 ≤ w.heap.size)
    (k0 : w.cell? ⟨g, 0, none⟩ = some (.slice A0 xs.length c0)) (k1 : w.cell? ⟨g, 1, none⟩ = some (.slice A1 ys.length c1)) (hg : g < w.heap.size) (hl0 : xs.length ≤ 1048576) (hl1 : ys.length ≤ 1048576) :
    Calls Try.prog 135 #[.slice (some ⟨g, 0, none⟩) 2 2] w (FreshInstr w (xs ++ ys)) := by
  obtain ⟨i0, hi, hz0, hz1, hz2⟩ := info_parts Try.infoInstr
  have hX := Lib.hid hx
  have hY := Lib.hid hy
  have K0 := Lib.hid k0
  have K1 := Lib.hid k1
  have hlen : Hid ((xs ++ ys).length = xs.length + ys.length) := List.length_append
  have hn0 : ¬ ((xs.length : Int) < 0) := by omega
  have hn1 : ¬ ((xs.length : Int) + ys.length < 0) := by omega
  have H0 := Lib.hid hB0
  have H1 := Lib.hid hB1
  have e1 : xs.length + ys.length ≤ 2097152 := by omega
  have hw1 : IntKind.i64.wrap ((xs.length : Int) + ys.length) = xs.length + ys.length := IntWalk.i64_in _ (by omega)
  clear hx hy hB0 hB1
  go_enter Try.func135, Try.ntmps135
  go_wp2_with (fail)
  refine wp_loop_rounds 3 ?_
  rw [rounds_succ]
  go_wp2
  rw [rounds_succ]
  go_wp2
  rw [rounds_succ]
  go_wp2_with (fail)
  clear k0 k1
  refine (GrowC_any _ (xs.length + ys.length) _ (by omega) e1).mono ?_
  rintro e w1 ⟨A, c, rfl, ho, hb⟩
  have hz := hb.size
  have k0 := (hb.cell (p := ⟨g, 0, none⟩) hg).trans K0.out
  have k1 := (hb.cell (p := ⟨g, 1, none⟩) hg).trans K1.out
  have hO := Lib.hid ho
  have hBl := Lib.hid hb
  go_wp2_with (fail)
  refine wp_loop_rounds 3 ?_
  rw [rounds_succ]
  go_wp2_with (at_builtin; refine wpList_append_src rfl (.tmp 31) (.tmp 32) 42 rfl w.heap.size 56 i0 _ 5 48 Try.underlying42 hi hz0 hz1 hz2 rfl (by decide) _ 0 [] rfl hO.out.1 A0 xs.length c0 (xs.flatMap In.enc) rfl (kflat_len In.hk xs) ((hX.out.below hBl.out H0.out).news In.hk) (five_ones xs) (by unfold maxLen; omega) (by omega) hz ?_; intro v2 w2 hown2 hgrow2 _)
  simp only [Nat.zero_add, List.nil_append] at hown2
  have hsz1 := hgrow2.size
  have hb2 := Lib.hid (hBl.out.grown hgrow2 hz (fun k hk => (ho.1.lt k hk).1))
  have hz2' := hb2.out.size
  have hO2 := Lib.hid hown2
  have k0' := (hb2.out.cell (p := ⟨g, 0, none⟩) hg).trans K0.out
  have k1' := (hb2.out.cell (p := ⟨g, 1, none⟩) hg).trans K1.out
  clear k0 k1 hown2 hgrow2
  rw [rounds_succ]
  go_wp2_with (at_builtin; refine wpList_append_src rfl (.tmp 31) (.tmp 32) 42 rfl w.heap.size 56 i0 _ 5 48 Try.underlying42 hi hz0 hz1 hz2 rfl (by decide) _ xs.length _ rfl hO2.out A1 ys.length c1 (ys.flatMap In.enc) rfl (kflat_len In.hk ys) ((hY.out.below hb2.out H1.out).news In.hk) (five_ones ys) (by unfold maxLen; omega) (by omega) hz2' ?_; intro v3 w3 hown3 hgrow3 _)
  trace "here"
  rw [← List.flatMap_append] at hown3
  have hO3 : Hid (OK In.enc 5 56 w3 w.heap.size w3.heap.size v3 (xs ++ ys)) := OK.ofRow hown3 hlen.out.symm
  have hb3 := Lib.hid (hb2.out.grown hgrow3 hz2' (fun k hk => (hO2.out.lt k hk).1))
  clear hown3 hgrow3
  rw [rounds_succ]
  go_wp2
  obtain ⟨A', c', rfl, _⟩ := OK.form In.hk hO3.out
  go_ret
  exact ⟨_, _, rfl, hO3.out, hb3.out⟩
end Go.Proofs.Ytmhdijklindipaa

namespace Go.Proofs.Ytmhdijklindipaa
open Go.RowKit
set_option linter.unusedVariables false
set_option maxRecDepth 100000

def joinOk (a b : List In) : Bool := okCode a && okCode b && decide (a.length + b.length ≤ 40)
def joinR (a b : List In) : List In := if joinOk a b = true then a ++ b else []
theorem joinR_len (a b : List In) : (joinR a b).length ≤ 1048576 := by
  unfold joinR; split
  · rename_i h; simp only [joinOk, Bool.and_eq_true, decide_eq_true_eq] at h
    have := h.2; rw [List.length_append]; omega
  · simp
theorem joinR_no {a b : List In} (h : joinOk a b = false) : joinR a b = [] := by simp [joinR, h]

set_option maxHeartbeats 4000000 in
theorem iJoin_any (L0 B0 : Nat) (A0 : Option Addr) (c0 : Nat) (xs : List In) (L1 B1 : Nat) (A1 : Option Addr) (c1 : Nat) (ys : List In) (w : World) (hl0 : xs.length ≤ 1048576) (hx : RS In.enc 5 w L0 B0 A0 xs) (hB0 : B0 ≤ w.heap.size) (hl1 : ys.length ≤ 1048576) (hy : RS In.enc 5 w L1 B1 A1 ys) (hB1 : B1 ≤ w.heap.size) :
    Calls Try.prog 28 #[.slice A0 xs.length c0, .slice A1 ys.length c1] w (ResJoinCode (joinR xs ys) (joinOk xs ys) w) := by
  have H := Lib.hid (IsCode_any L0 B0 A0 c0 xs w hl0 hx hB0)
  have hX := Lib.hid hx
  have hY := Lib.hid hy
  have z0 := Lib.hid hB0
  have z1 := Lib.hid hB1
  clear hx hy hB0 hB1
  go_enter Try.func28, Try.ntmps28
  go_wp2_with (fail)
  refine H.out.mono ?_
  rintro e w2 ⟨rfl, hb⟩
  have hbb := Lib.hid hb
  have hz := Lib.hid hb.size
  clear hb
  cases hg : okCode xs
  · have hK : Hid (joinOk xs ys = false) := by simp [Hid, joinOk, hg]
    have hR := Lib.hid (joinR_no hK.out)
    go_wp2
    go_ret2
    rw [hR.out, hK.out]; exact ⟨none, 0, rfl, OK.nil _ _ _ _, hbb.out⟩
  have hG := Lib.hid hg
  clear hg
  have hlen := Lib.hid (okCode_len hG.out)
  have H2 := Lib.hid (IsCode_any L1 B1 A1 c1 ys w2 hl1 (hY.out.below hbb.out z1.out) (Nat.le_trans z1.out hz.out))
  go_wp2_with (fail)
  refine H2.out.mono ?_
  rintro e w3 ⟨rfl, hb⟩
  have hbb3 := Lib.hid (hbb.out.trans (hb.mono hz.out))
  have hz3 := Lib.hid (Nat.le_trans hz.out hb.size)
  clear hb
  cases hg : okCode ys
  · have hK : Hid (joinOk xs ys = false) := by simp [Hid, joinOk, hg]
    have hR := Lib.hid (joinR_no hK.out)
    go_wp2
    go_ret2
    rw [hR.out, hK.out]; exact ⟨none, 0, rfl, OK.nil _ _ _ _, hbb3.out⟩
  have hG1 := Lib.hid hg
  clear hg
  have hlen1 := Lib.hid (okCode_len hG1.out)
  by_cases hc : xs.length + ys.length ≤ 40
  · have hK : Hid (joinOk xs ys = true) := by simp only [Hid, joinOk, hG.out, hG1.out, Bool.true_and, decide_eq_true_eq]; exact hc
    have hR : Hid (joinR xs ys = xs ++ ys) := by rw [Hid, joinR, if_pos hK.out]
    have hgt : ¬ ((xs.length : Int) + ys.length > 40) := by omega
    have hX3 := Lib.hid (hX.out.below hbb3.out z0.out)
    have hY3 := Lib.hid (hY.out.below hbb3.out z1.out)
    go_wp2_with (fail)
    have hbA := fun o => (Below.refl w3.heap.size w3).alloc (Nat.le_refl _) o
    have zz0 : B0 ≤ w3.heap.size := Nat.le_trans z0.out hz3.out
    have zz1 : B1 ≤ w3.heap.size := Nat.le_trans z1.out hz3.out
    refine (ConcatC_any L0 B0 L1 B1 w3.heap.size A0 A1 c0 c1 xs ys _ (hX3.out.below (hbA _) zz0) (hY3.out.below (hbA _) zz1) (by simp; omega) (by simp; omega) (by go_simp) (by go_simp) (by simp) hl0 hl1).mono ?_
    rintro e w4 ⟨A, c, rfl, ho, hb⟩
    have hO := Lib.hid (ho.lower (Nat.le_trans hz3.out (by simp)))
    have hB4 := Lib.hid (hbb3.out.trans ((hbA _).trans (hb.mono (by simp)) |>.mono hz3.out))
    clear ho hb hbA
    generalize xs ++ ys = Z at *
    go_wp2
    go_ret2
    rw [hR.out, hK.out]; exact ⟨A, c, rfl, hO.out, hB4.out⟩
  · have hK : Hid (joinOk xs ys = false) := by simp only [Hid, joinOk, hG.out, hG1.out, Bool.true_and, decide_eq_false_iff_not]; exact hc
    have hR := Lib.hid (joinR_no hK.out)
    have hgt : ((xs.length : Int) + ys.length > 40) := by omega
    go_wp2
    go_ret2
    rw [hR.out, hK.out]; exact ⟨none, 0, rfl, OK.nil _ _ _ _, hbb3.out⟩
set_option maxHeartbeats 4000000 in
theorem sJoin_any (L0 B0 : Nat) (A0 : Option Addr) (c0 : Nat) (xs : List In) (L1 B1 : Nat) (A1 : Option Addr) (c1 : Nat) (ys : List In) (w : World) (hl0 : xs.length ≤ 1048576) (hx : RS In.enc 5 w L0 B0 A0 xs) (hB0 : B0 ≤ w.heap.size) (hl1 : ys.length ≤ 1048576) (hy : RS In.enc 5 w L1 B1 A1 ys) (hB1 : B1 ≤ w.heap.size) :
    Calls Try.prog 29 #[.slice A0 xs.length c0, .slice A1 ys.length c1] w (ResJoinCode (joinR xs ys) (joinOk xs ys) w) := by
  have H := Lib.hid (cdCode_any L0 B0 A0 c0 xs w hl0 hx hB0)
  have hX := Lib.hid hx
  have hY := Lib.hid hy
  have z0 := Lib.hid hB0
  have z1 := Lib.hid hB1
  clear hx hy hB0 hB1
  go_enter Try.func29, Try.ntmps29
  go_wp2_with (fail)
  refine H.out.mono ?_
  rintro e w2 ⟨rfl, hb⟩
  have hbb := Lib.hid hb
  have hz := Lib.hid hb.size
  clear hb
  cases hg : okCode xs
  · have hK : Hid (joinOk xs ys = false) := by simp [Hid, joinOk, hg]
    have hR := Lib.hid (joinR_no hK.out)
    go_wp2
    go_ret2
    rw [hR.out, hK.out]; exact ⟨none, 0, rfl, OK.nil _ _ _ _, hbb.out⟩
  have hG := Lib.hid hg
  clear hg
  have hlen := Lib.hid (okCode_len hG.out)
  have H2 := Lib.hid (cdCode_any L1 B1 A1 c1 ys w2 hl1 (hY.out.below hbb.out z1.out) (Nat.le_trans z1.out hz.out))
  go_wp2_with (fail)
  refine H2.out.mono ?_
  rintro e w3 ⟨rfl, hb⟩
  have hbb3 := Lib.hid (hbb.out.trans (hb.mono hz.out))
  have hz3 := Lib.hid (Nat.le_trans hz.out hb.size)
  clear hb
  cases hg : okCode ys
  · have hK : Hid (joinOk xs ys = false) := by simp [Hid, joinOk, hg]
    have hR := Lib.hid (joinR_no hK.out)
    go_wp2
    go_ret2
    rw [hR.out, hK.out]; exact ⟨none, 0, rfl, OK.nil _ _ _ _, hbb3.out⟩
  have hG1 := Lib.hid hg
  clear hg
  have hlen1 := Lib.hid (okCode_len hG1.out)
  by_cases hc : xs.length + ys.length ≤ 40
  · have hK : Hid (joinOk xs ys = true) := by simp only [Hid, joinOk, hG.out, hG1.out, Bool.true_and, decide_eq_true_eq]; exact hc
    have hR : Hid (joinR xs ys = xs ++ ys) := by rw [Hid, joinR, if_pos hK.out]
    have hgt : ¬ ((xs.length : Int) + ys.length > 40) := by omega
    have hX3 := Lib.hid (hX.out.below hbb3.out z0.out)
    have hY3 := Lib.hid (hY.out.below hbb3.out z1.out)
    obtain ⟨i0, hi, hq0, hq1, hq2⟩ := info_parts Try.infoInstr
    have hb0 := Lib.hid ((Below.refl w3.heap.size w3).alloc (Nat.le_refl _) (.cells #[] 56))
    have zz0 : B0 ≤ w3.heap.size := Nat.le_trans z0.out hz3.out
    have zz1 : B1 ≤ w3.heap.size := Nat.le_trans z1.out hz3.out
    have hown := Lib.hid (World.ownsRow_made (base := w3.heap.size) (e := 56) (size := 5) w3 #[] 0 (Nat.le_refl _) (by unfold maxLen; omega) (by simp))
    have hsz0 := Lib.hid hb0.out.size
    have hLl : Hid ((xs ++ ys).length = xs.length + ys.length) := List.length_append
    go_wp2_with (first | (at_builtin; refine wpList_append_src rfl (.tmp 22) (.tmp 23) 42 rfl w3.heap.size 56 i0 _ 5 48 Try.underlying42 hi hq0 hq1 hq2 rfl (by decide) _ 0 [] rfl hown.out A0 xs.length c0 (xs.flatMap In.enc) rfl (kflat_len In.hk xs) ((hX3.out.below hb0.out zz0).news In.hk) (five_ones xs) (by unfold maxLen; omega) (by omega) hsz0.out ?_; intro v4 w4 hown4 hgrow4 _; simp only [Nat.zero_add, List.nil_append] at hown4; have hb4 := Lib.hid (hb0.out.grown hgrow4 hsz0.out (fun k hk => (by cases hk; exact Nat.le_refl _))); have hO4 := Lib.hid hown4; clear hown4 hgrow4) | (at_builtin; refine wpList_append_src rfl (.tmp 24) (.tmp 25) 42 rfl w3.heap.size 56 i0 _ 5 48 Try.underlying42 hi hq0 hq1 hq2 rfl (by decide) _ xs.length _ rfl hO4.out A1 ys.length c1 (ys.flatMap In.enc) rfl (kflat_len In.hk ys) ((hY3.out.below hb4.out zz1).news In.hk) (five_ones ys) (by unfold maxLen; omega) (by omega) hb4.out.size ?_; intro v5 w5 hown5 hgrow5 _; rw [← List.flatMap_append] at hown5; have hO5 := Lib.hid ((OK.ofRow hown5 hLl.out.symm).lower hz3.out); have hB5 := Lib.hid (hbb3.out.trans ((hb4.out.grown hgrow5 hb4.out.size (fun k hk => (hO4.out.lt k hk).1)).mono hz3.out)); clear hown5 hgrow5; obtain ⟨A, c, rfl, _⟩ := OK.form In.hk hO5.out; generalize xs ++ ys = Z at *))
    go_ret2
    rw [hR.out, hK.out]; exact ⟨A, c, rfl, hO5.out, hB5.out⟩
  · have hK : Hid (joinOk xs ys = false) := by simp only [Hid, joinOk, hG.out, hG1.out, Bool.true_and, decide_eq_false_iff_not]; exact hc
    have hR := Lib.hid (joinR_no hK.out)
    have hgt : ((xs.length : Int) + ys.length > 40) := by omega
    go_wp2
    go_ret2
    rw [hR.out, hK.out]; exact ⟨none, 0, rfl, OK.nil _ _ _ _, hbb3.out⟩
end Go.Proofs.Ytmhdijklindipaa

/- FnCodeRuns: code runs step by step, joined code one after the other, costs add up. -/
namespace Go.Proofs.Ytmhdijklindipaa
open Go.RowKit
set_option linter.unusedVariables false
set_option maxRecDepth 100000

theorem joinOk_parts {a b : List In} (h : joinOk a b = true) : okCode a = true ∧ okCode b = true ∧ okCode (a ++ b) = true ∧ joinR a b = a ++ b := by
  have h0 := h
  unfold joinOk at h0
  simp only [Bool.and_eq_true] at h0
  obtain ⟨⟨h1, h2⟩, h3⟩ := h0
  have h3 := of_decide_eq_true h3
  refine ⟨h1, h2, ?_, by unfold joinR; rw [if_pos h]⟩
  unfold okCode
  rw [Bool.and_eq_true, List.all_append, Bool.and_eq_true]
  exact ⟨decide_eq_true (by rw [List.length_append]; exact h3), List.all_eq_true.2 (okCode_all h1), List.all_eq_true.2 (okCode_all h2)⟩
theorem joinR_len9 (a b : List In) (ha : a.length ≤ 1000) (hb : b.length ≤ 1000) : (joinR a b).length ≤ 1048576 := by
  unfold joinR; split
  · rw [List.length_append]; omega
  · simp
theorem trOk_parts {es : List In} {rs : List Int} (h : trOk es rs = true) : okCode es = true ∧ regsOk rs = true := by
  unfold trOk at h
  rw [Bool.and_eq_true] at h; exact h
theorem words_regs {rs : List Int} (h : words6 rs) : regsOk rs = true := by
  unfold regsOk
  rw [Bool.and_eq_true]
  exact ⟨by simpa using h.1, h.2⟩
theorem trL_get (es : List In) (rs : List Int) {i : Nat} (h : i ≤ es.length) (h2 : i < (trL es rs es.length).length) : (trL es rs es.length)[i] = runL (es.take i) rs := by simp [trL]
theorem trL_lens (es : List In) {rs : List Int} (hr : rs.length = 6) : ∀ xs ∈ trL es rs es.length, xs.length ≤ 1048576 := fun xs hx => by
  unfold trL at hx
  rw [List.mem_map] at hx
  obtain ⟨i, _, rfl⟩ := hx
  rw [runL_len, hr]; omega
theorem trR_lens (es : List In) (rs : List Int) : ∀ xs ∈ trR es rs, xs.length ≤ 1048576 := fun xs hx => by
  cases h : trOk es rs
  · unfold trR at hx; rw [h] at hx; simp at hx
  · obtain ⟨h1, h2⟩ := trOk_parts h
    rw [(trOk_yes h1 h2).2] at hx
    exact trL_lens es (regsOk_words h2).1 xs hx
theorem trR_len9 (es : List In) (rs : List Int) : (trR es rs).length ≤ 1048576 := by
  cases h : trOk es rs
  · unfold trR; rw [h]; simp
  · obtain ⟨h1, h2⟩ := trOk_parts h
    rw [(trOk_yes h1 h2).2, trL_len]
    have := okCode_len h1; omega
theorem XS.rowD {W : World} {A : Option Addr} {es : List In} {rs : List Int} (h : XS W 0 W.heap.size A (trL es rs es.length)) (hr : rs.length = 6) : ∃ b o, A = some ⟨b, o, none⟩ := by
  obtain ⟨b, o, Ai, ci, e, _⟩ := h.at (i := 0) (by rw [trL_len]; omega)
  exact ⟨b, o, e⟩
theorem XS.rowAt {W : World} {b o : Nat} {es : List In} {rs : List Int} (h : XS W 0 W.heap.size (some ⟨b, o, none⟩) (trL es rs es.length)) (hr : rs.length = 6) {i : Nat} (hi : i ≤ es.length) :
    ∃ Ai ci, b < W.heap.size ∧ W.cell? ⟨b, o + i, none⟩ = some (.slice Ai 6 ci) ∧ IS W 0 W.heap.size Ai (runL (es.take i) rs) := by
  have hl : i < (trL es rs es.length).length := by rw [trL_len]; omega
  obtain ⟨b', o', Ai, ci, e, hb, hc, hI⟩ := h.at hl
  injection e with e; injection e with e1 e2
  subst e1; subst e2
  rw [trL_get es rs hi hl] at hc hI
  rw [runL_len, hr] at hc
  exact ⟨Ai, ci, hb, hc, hI⟩
theorem step_run {es : List In} {rs : List Int} (hok : okCode es = true) (hr : regsOk rs = true) {k : Nat} (h : k < es.length) :
    stepR es[k] (runL (es.take k) rs) = runL (es.take (k + 1)) rs ∧ (goodIn es[k] && regsOk (runL (es.take k) rs)) = true ∧ ∀ r : Nat, r < 6 → ¬ (r : Int) = es[k].d → (runL (es.take (k + 1)) rs).getD r 0 = (runL (es.take k) rs).getD r 0 := by
  have hg := okCode_all hok _ (List.getElem_mem h)
  have hw := runL_words_take (okCode_all hok) (regsOk_words hr) k
  have hk : (goodIn es[k] && regsOk (runL (es.take k) rs)) = true := by rw [hg, words_regs hw]; rfl
  refine ⟨by unfold stepR; rw [if_pos hk, runL_snoc h], hk, fun r hr6 hne => ?_⟩
  rw [runL_snoc h, step_get hg hw.1, if_neg]
  have := (good_parts hg).1
  omega
theorem join_run {a b : List In} (h : joinOk a b = true) {rs : List Int} (hr : regsOk rs = true) :
    runR a rs = runL a rs ∧ (okCode a && regsOk rs) = true ∧ runR b (runL a rs) = runL (a ++ b) rs ∧ (okCode b && regsOk (runL a rs)) = true ∧ runR (a ++ b) rs = runL (a ++ b) rs ∧ (okCode (a ++ b) && regsOk rs) = true ∧ sumR (a ++ b) = sumR a + sumR b ∧ okCode a = true ∧ okCode b = true ∧ okCode (a ++ b) = true ∧ 0 ≤ sumR a ∧ sumR a ≤ 160 ∧ 0 ≤ sumR b ∧ sumR b ≤ 160 := by
  obtain ⟨h1, h2, h3, _⟩ := joinOk_parts h
  have hw := runL_words (okCode_all h1) (regsOk_words hr)
  have k1 : (okCode a && regsOk rs) = true := by rw [h1, hr]; rfl
  have k2 : (okCode b && regsOk (runL a rs)) = true := by rw [h2, words_regs hw]; rfl
  have k3 : (okCode (a ++ b) && regsOk rs) = true := by rw [h3, hr]; rfl
  have s1 : sumR a = sumC a := by unfold sumR; rw [if_pos h1]
  have s2 : sumR b = sumC b := by unfold sumR; rw [if_pos h2]
  have s3 : sumR (a ++ b) = sumC (a ++ b) := by unfold sumR; rw [if_pos h3]
  have b1 := sumC_bd (es := a) (Nat.le_refl _)
  have b2 := sumC_bd (es := b) (Nat.le_refl _)
  rw [List.take_length] at b1 b2
  have l1 := okCode_len h1
  have l2 := okCode_len h2
  exact ⟨by unfold runR; rw [if_pos k1], k1, by unfold runR; rw [if_pos k2, runL_app], k2, by unfold runR; rw [if_pos k3], k3, by rw [s1, s2, s3, sumC_app], h1, h2, h3, by omega, by omega, by omega, by omega⟩

set_option maxHeartbeats 16000000 in
theorem fnCodeRuns_go (A A' : Option Addr) (c c' : Nat) (bs bs' : List Int) (w : World) (hbl : bs.length + bs'.length ≤ 1048576) (ha : ∀ x ∈ bs, 0 ≤ x ∧ x ≤ 255) (ha' : ∀ x ∈ bs', 0 ≤ x ∧ x ≤ 255) (hy : BY w w.heap.size A bs) (hy' : BY w w.heap.size A' bs') :
    Calls Try.prog 4 #[.slice A bs.length c, .slice A' bs'.length c'] w fun e w' => e = .returned (.bool true) ∧ Below w.heap.size w w' := by
  have hB := Lib.hid (Below.refl w.heap.size w)
  have hBY := Lib.hid fun (W : World) (hW : Below w.heap.size w W) => ((hy.keep fun j hj => hW.block j hj).more hW.size : BY W W.heap.size A bs)
  have hBY' := Lib.hid fun (W : World) (hW : Below w.heap.size w W) => ((hy'.keep fun j hj => hW.block j hj).more hW.size : BY W W.heap.size A' bs')
  have HBig := Lib.hid (big_no A A' bs.length bs'.length c c' w (by omega) (by omega) hbl)
  have hA := Lib.hid ha
  have hA' := Lib.hid ha'
  clear hy hy' ha ha'
  go_enter Try.func4, Try.ntmps4
  go_wp2_with (fail)
  refine HBig.out.mono ?_
  rintro e w0 ⟨rfl, rfl⟩
  clear HBig
  have H := Lib.hid (DrawJoinCode_d A c bs w (by omega) hA.out (hBY.out w hB.out))
  go_wp2_with (fail)
  refine (H.out).mono ?_
  rintro e w1 ⟨_, _, xa, xb, rfl, ⟨Aa, ca, rfl, na, ka, sa, ra⟩, ⟨Ab, cb, rfl, nb, kb, sb, rb⟩, hbe⟩
  replace hB := Lib.hid (hB.out.trans (hbe.mono hB.out.size))
  have h_a := Lib.hid (ra.more (Nat.zero_le _) (Nat.le_refl _))
  have h_b := Lib.hid (rb.more (Nat.zero_le _) (Nat.le_refl _))
  clear hbe H
  clear ra rb sa sb ka kb
  have hjl := Lib.hid (joinR_len9 xa xb (by omega) (by omega))
  have H := Lib.hid (iJoin_any 0 w1.heap.size Aa ca xa 0 w1.heap.size Ab cb xb w1 (by omega) h_a.out (Nat.le_refl _) (by omega) h_b.out (Nat.le_refl _))
  go_wp2_with (fail)
  refine (H.out).mono ?_
  rintro e w2 ⟨Ac, cc, rfl, oc, hbe⟩
  replace h_a := Lib.hid (h_a.out.upD hbe)
  replace h_b := Lib.hid (h_b.out.upD hbe)
  replace hB := Lib.hid (hB.out.trans (hbe.mono hB.out.size))
  have h_c := Lib.hid ((OK.rsD oc).more (Nat.zero_le _) (Nat.le_refl _))
  clear hbe H
  clear oc
  have H := Lib.hid (sJoin_any 0 w2.heap.size Aa ca xa 0 w2.heap.size Ab cb xb w2 (by omega) h_a.out (Nat.le_refl _) (by omega) h_b.out (Nat.le_refl _))
  go_wp2_with (fail)
  refine (H.out).mono ?_
  rintro e w3 ⟨Ad, cd, rfl, od, hbe⟩
  replace h_a := Lib.hid (h_a.out.upD hbe)
  replace h_b := Lib.hid (h_b.out.upD hbe)
  replace h_c := Lib.hid (h_c.out.upD hbe)
  replace hB := Lib.hid (hB.out.trans (hbe.mono hB.out.size))
  have h_d := Lib.hid ((OK.rsD od).more (Nat.zero_le _) (Nat.le_refl _))
  clear hbe H
  clear od
  cases hJ : joinOk xa xb
  · skip
    have H := Lib.hid (pSameCode_eq 0 w3.heap.size 0 w3.heap.size Ac Ad _ _ cc cd (joinR xa xb) w3 rfl rfl hjl.out h_c.out h_d.out)
    go_wp2_with (fail)
    refine (H.out).mono ?_
    rintro e w4 ⟨rfl, n, hn⟩
    have hbe := yes_below hn
    clear hn n
    replace h_a := Lib.hid (h_a.out.upD hbe)
    replace h_b := Lib.hid (h_b.out.upD hbe)
    replace h_c := Lib.hid (h_c.out.upD hbe)
    replace h_d := Lib.hid (h_d.out.upD hbe)
    replace hB := Lib.hid (hB.out.trans (hbe.mono hB.out.size))
    clear hbe H
    clear h_d
    have H := Lib.hid (DrawTraceOf_d A' c' bs' w4 (by omega) hA'.out (hBY'.out _ hB.out))
    go_wp2_with (fail)
    refine (H.out).mono ?_
    rintro e w5 ⟨_, _, xl, rs, rfl, ⟨Al, cl, rfl, nl, kl, sl, rl⟩, ⟨Ar, cr, rfl, nr, rr⟩, hbe⟩
    replace h_a := Lib.hid (h_a.out.upD hbe)
    replace h_b := Lib.hid (h_b.out.upD hbe)
    replace h_c := Lib.hid (h_c.out.upD hbe)
    replace hB := Lib.hid (hB.out.trans (hbe.mono hB.out.size))
    have h_l := Lib.hid (rl.more (Nat.zero_le _) (Nat.le_refl _))
    have h_r := Lib.hid (rr.more (Nat.zero_le _) (Nat.le_refl _))
    clear hbe H
    clear rl rr sl kl
    have H := Lib.hid (iTraceOf_k 0 w5.heap.size Al cl xl 0 w5.heap.size Ar cr rs w5 (by omega) h_l.out (Nat.le_refl _) (by omega) h_r.out (Nat.le_refl _))
    go_wp2_with (fail)
    refine (H.out).mono ?_
    rintro e w6 ⟨At, ct, rfl, ot, hbe⟩
    replace h_a := Lib.hid (h_a.out.upD hbe)
    replace h_b := Lib.hid (h_b.out.upD hbe)
    replace h_c := Lib.hid (h_c.out.upD hbe)
    replace h_l := Lib.hid (h_l.out.upD hbe)
    replace h_r := Lib.hid (h_r.out.upD hbe)
    replace hB := Lib.hid (hB.out.trans (hbe.mono hB.out.size))
    have h_t := Lib.hid ((OX.rs ot).lowD)
    clear hbe H
    clear ot
    have H := Lib.hid (sTraceOf_k 0 w6.heap.size Al cl xl 0 w6.heap.size Ar cr rs w6 (by omega) h_l.out (Nat.le_refl _) (by omega) h_r.out (Nat.le_refl _))
    go_wp2_with (fail)
    refine (H.out).mono ?_
    rintro e w7 ⟨Au, cu, rfl, ou, hbe⟩
    replace h_a := Lib.hid (h_a.out.upD hbe)
    replace h_b := Lib.hid (h_b.out.upD hbe)
    replace h_c := Lib.hid (h_c.out.upD hbe)
    replace h_l := Lib.hid (h_l.out.upD hbe)
    replace h_r := Lib.hid (h_r.out.upD hbe)
    replace h_t := Lib.hid (h_t.out.upD hbe)
    replace hB := Lib.hid (hB.out.trans (hbe.mono hB.out.size))
    have h_u := Lib.hid ((OX.rs ou).lowD)
    clear hbe H
    clear ou
    have H := Lib.hid (show Calls Try.prog 34 #[.slice Al xl.length cl, .slice Ar rs.length cr] w7 (ResRunCode (runR xl rs) (trOk xl rs) w7) from iRunCode_any 0 w7.heap.size Al cl xl 0 w7.heap.size Ar cr rs w7 (by omega) h_l.out (Nat.le_refl _) (by omega) h_r.out (Nat.le_refl _))
    go_wp2_with (fail)
    refine (H.out).mono ?_
    rintro e w8 ⟨Ae, ce, rfl, oe, hbe⟩
    replace h_a := Lib.hid (h_a.out.upD hbe)
    replace h_b := Lib.hid (h_b.out.upD hbe)
    replace h_c := Lib.hid (h_c.out.upD hbe)
    replace h_l := Lib.hid (h_l.out.upD hbe)
    replace h_r := Lib.hid (h_r.out.upD hbe)
    replace h_t := Lib.hid (h_t.out.upD hbe)
    replace h_u := Lib.hid (h_u.out.upD hbe)
    replace hB := Lib.hid (hB.out.trans (hbe.mono hB.out.size))
    have h_e := Lib.hid (IS.more (OW.rs oe) (Nat.zero_le _) (Nat.le_refl _))
    clear hbe H
    clear oe
    have H := Lib.hid (show Calls Try.prog 35 #[.slice Al xl.length cl, .slice Ar rs.length cr] w8 (ResRunCode (runR xl rs) (trOk xl rs) w8) from sRunCode_any 0 w8.heap.size Al cl xl 0 w8.heap.size Ar cr rs w8 (by omega) h_l.out (Nat.le_refl _) (by omega) h_r.out (Nat.le_refl _))
    go_wp2_with (fail)
    refine (H.out).mono ?_
    rintro e w9 ⟨Af, cf, rfl, of, hbe⟩
    replace h_a := Lib.hid (h_a.out.upD hbe)
    replace h_b := Lib.hid (h_b.out.upD hbe)
    replace h_c := Lib.hid (h_c.out.upD hbe)
    replace h_l := Lib.hid (h_l.out.upD hbe)
    replace h_r := Lib.hid (h_r.out.upD hbe)
    replace h_t := Lib.hid (h_t.out.upD hbe)
    replace h_u := Lib.hid (h_u.out.upD hbe)
    replace h_e := Lib.hid (h_e.out.upD hbe)
    replace hB := Lib.hid (hB.out.trans (hbe.mono hB.out.size))
    have h_f := Lib.hid (IS.more (OW.rs of) (Nat.zero_le _) (Nat.le_refl _))
    clear hbe H
    clear of
    have htl := Lib.hid (trR_len9 xl rs)
    have hts := Lib.hid (trR_lens xl rs)
    have hrl := Lib.hid (runR_len xl rs)
    cases hT : trOk xl rs
    · skip
      have H := Lib.hid (pSameRows_eq 0 w9.heap.size 0 w9.heap.size At Au _ _ ct cu (trR xl rs) w9 rfl rfl htl.out hts.out h_t.out h_u.out)
      go_wp2_with (fail)
      refine (H.out).mono ?_
      rintro e w10 ⟨rfl, n, hn⟩
      have hbe := yes_below hn
      clear hn n
      replace h_a := Lib.hid (h_a.out.upD hbe)
      replace h_b := Lib.hid (h_b.out.upD hbe)
      replace h_c := Lib.hid (h_c.out.upD hbe)
      replace h_l := Lib.hid (h_l.out.upD hbe)
      replace h_r := Lib.hid (h_r.out.upD hbe)
      replace h_t := Lib.hid (h_t.out.upD hbe)
      replace h_u := Lib.hid (h_u.out.upD hbe)
      replace h_e := Lib.hid (h_e.out.upD hbe)
      replace h_f := Lib.hid (h_f.out.upD hbe)
      replace hB := Lib.hid (hB.out.trans (hbe.mono hB.out.size))
      clear hbe H
      have H := Lib.hid (pSame_eq 0 w10.heap.size 0 w10.heap.size Ae Af _ _ ce cf (runR xl rs) w10 rfl rfl hrl.out h_e.out h_f.out)
      go_wp2_with (fail)
      refine (H.out).mono ?_
      rintro e w11 ⟨rfl, n, hn⟩
      have hbe := yes_below hn
      clear hn n
      replace h_a := Lib.hid (h_a.out.upD hbe)
      replace h_b := Lib.hid (h_b.out.upD hbe)
      replace h_c := Lib.hid (h_c.out.upD hbe)
      replace h_l := Lib.hid (h_l.out.upD hbe)
      replace h_r := Lib.hid (h_r.out.upD hbe)
      replace h_t := Lib.hid (h_t.out.upD hbe)
      replace h_u := Lib.hid (h_u.out.upD hbe)
      replace h_e := Lib.hid (h_e.out.upD hbe)
      replace h_f := Lib.hid (h_f.out.upD hbe)
      replace hB := Lib.hid (hB.out.trans (hbe.mono hB.out.size))
      clear hbe H
      clear h_u
      clear h_f
      have H := Lib.hid (DrawResultOf_d A c bs w11 (by omega) hA.out (hBY.out _ hB.out))
      go_wp2_with (fail)
      refine (H.out).mono ?_
      rintro e w12 ⟨_, xo, x0, x1, r, rfl, ⟨Ao, co, rfl, no, ko, so, ro⟩, hbe⟩
      replace h_a := Lib.hid (h_a.out.upD hbe)
      replace h_b := Lib.hid (h_b.out.upD hbe)
      replace h_c := Lib.hid (h_c.out.upD hbe)
      replace h_l := Lib.hid (h_l.out.upD hbe)
      replace h_r := Lib.hid (h_r.out.upD hbe)
      replace h_t := Lib.hid (h_t.out.upD hbe)
      replace h_e := Lib.hid (h_e.out.upD hbe)
      replace hB := Lib.hid (hB.out.trans (hbe.mono hB.out.size))
      have h_o := Lib.hid (ro.more (Nat.zero_le _) (Nat.le_refl _))
      clear hbe H
      clear ro so ko
      have H := Lib.hid (iResultOf_any 0 w12.heap.size Ao co xo x0 x1 r w12 (by omega) h_o.out (Nat.le_refl _))
      go_wp2_with (fail)
      refine (H.out).mono ?_
      rintro e w13 ⟨rfl, hbe⟩
      replace h_a := Lib.hid (h_a.out.upD hbe)
      replace h_b := Lib.hid (h_b.out.upD hbe)
      replace h_c := Lib.hid (h_c.out.upD hbe)
      replace h_l := Lib.hid (h_l.out.upD hbe)
      replace h_r := Lib.hid (h_r.out.upD hbe)
      replace h_t := Lib.hid (h_t.out.upD hbe)
      replace h_e := Lib.hid (h_e.out.upD hbe)
      replace h_o := Lib.hid (h_o.out.upD hbe)
      replace hB := Lib.hid (hB.out.trans (hbe.mono hB.out.size))
      clear hbe H
      have H := Lib.hid (sResultOf_any 0 w13.heap.size Ao co xo x0 x1 r w13 (by omega) h_o.out (Nat.le_refl _))
      go_wp2_with (fail)
      refine (H.out).mono ?_
      rintro e w14 ⟨rfl, hbe⟩
      replace h_a := Lib.hid (h_a.out.upD hbe)
      replace h_b := Lib.hid (h_b.out.upD hbe)
      replace h_c := Lib.hid (h_c.out.upD hbe)
      replace h_l := Lib.hid (h_l.out.upD hbe)
      replace h_r := Lib.hid (h_r.out.upD hbe)
      replace h_t := Lib.hid (h_t.out.upD hbe)
      replace h_e := Lib.hid (h_e.out.upD hbe)
      replace h_o := Lib.hid (h_o.out.upD hbe)
      replace hB := Lib.hid (hB.out.trans (hbe.mono hB.out.size))
      clear hbe H
      clear h_o
      cases hq : resOk xo x0 x1 r
      · go_wp2
        go_ret
        exact ⟨rfl, hB.out⟩
      · go_wp2
        go_ret
        exact ⟨rfl, hB.out⟩
    · skip
      have H := Lib.hid (pSameRows_eq 0 w9.heap.size 0 w9.heap.size At Au _ _ ct cu (trR xl rs) w9 rfl rfl htl.out hts.out h_t.out h_u.out)
      go_wp2_with (fail)
      refine (H.out).mono ?_
      rintro e w10 ⟨rfl, n, hn⟩
      have hbe := yes_below hn
      clear hn n
      replace h_a := Lib.hid (h_a.out.upD hbe)
      replace h_b := Lib.hid (h_b.out.upD hbe)
      replace h_c := Lib.hid (h_c.out.upD hbe)
      replace h_l := Lib.hid (h_l.out.upD hbe)
      replace h_r := Lib.hid (h_r.out.upD hbe)
      replace h_t := Lib.hid (h_t.out.upD hbe)
      replace h_u := Lib.hid (h_u.out.upD hbe)
      replace h_e := Lib.hid (h_e.out.upD hbe)
      replace h_f := Lib.hid (h_f.out.upD hbe)
      replace hB := Lib.hid (hB.out.trans (hbe.mono hB.out.size))
      clear hbe H
      have H := Lib.hid (pSame_eq 0 w10.heap.size 0 w10.heap.size Ae Af _ _ ce cf (runR xl rs) w10 rfl rfl hrl.out h_e.out h_f.out)
      go_wp2_with (fail)
      refine (H.out).mono ?_
      rintro e w11 ⟨rfl, n, hn⟩
      have hbe := yes_below hn
      clear hn n
      replace h_a := Lib.hid (h_a.out.upD hbe)
      replace h_b := Lib.hid (h_b.out.upD hbe)
      replace h_c := Lib.hid (h_c.out.upD hbe)
      replace h_l := Lib.hid (h_l.out.upD hbe)
      replace h_r := Lib.hid (h_r.out.upD hbe)
      replace h_t := Lib.hid (h_t.out.upD hbe)
      replace h_u := Lib.hid (h_u.out.upD hbe)
      replace h_e := Lib.hid (h_e.out.upD hbe)
      replace h_f := Lib.hid (h_f.out.upD hbe)
      replace hB := Lib.hid (hB.out.trans (hbe.mono hB.out.size))
      clear hbe H
      clear h_u
      clear h_f
      obtain ⟨hok, hrg⟩ := trOk_parts hT
      have hR6 := (regsOk_words hrg).1
      have eT := (trOk_yes hok hrg).2
      have eR : runR xl rs = runL xl rs := by unfold runR; rw [if_pos]; exact hT
      have hTl := trL_len xl rs xl.length
      have hRl : (runL xl rs).length = 6 := by rw [runL_len, hR6]
      rw [eT] at h_t
      rw [eR] at h_e
      rw [eT, eR, hTl, hRl, hR6]
      clear htl hts hrl eT eR hTl
      have h20 : xl.length ≤ 40 := okCode_len hok
      obtain ⟨tb, to, rfl⟩ := h_t.out.rowD hR6
      have hRL := Lib.hid hR6
      have hEL := Lib.hid hRl
      have hOK := Lib.hid hok
      have hRG := Lib.hid hrg
      have hT9 := Lib.hid hT
      have hJ9 := Lib.hid hJ
      clear hok hrg hT hR6 hRl hJ
      have hw1 : IntKind.i64.wrap ((xl.length : Int) + 1) = (xl.length : Int) + 1 := IntWalk.i64_in _ (by omega)
      obtain ⟨Ai, ci, _, qi, hIi⟩ := h_t.out.rowAt hRL.out (i := 0) (Nat.zero_le _)
      obtain ⟨Aj, cj, htb, qj, hIj⟩ := h_t.out.rowAt hRL.out (i := xl.length) (Nat.le_refl _)
      rw [Nat.add_zero] at qi
      rw [show runL (xl.take 0) rs = rs from rfl] at hIi
      rw [List.take_length] at hIj
      have hn0 : (0 : Int) ≤ (xl.length : Int) := by omega
      have hn1 : (xl.length : Int) < (xl.length : Int) + 1 := by omega
      have h_i := Lib.hid hIi
      have h_j := Lib.hid hIj
      clear hIi hIj
      have H := Lib.hid (pSame_eq 0 w11.heap.size 0 w11.heap.size Ai Ar 6 6 ci cr rs w11 hRL.out.symm hRL.out.symm (by rw [hRL.out]; omega) h_i.out h_r.out)
      go_wp2_with (fail)
      refine (H.out).mono ?_
      rintro e w12 ⟨rfl, n, hn⟩
      have hbe := yes_below hn
      clear hn n
      replace h_a := Lib.hid (h_a.out.upD hbe)
      replace h_b := Lib.hid (h_b.out.upD hbe)
      replace h_c := Lib.hid (h_c.out.upD hbe)
      replace h_l := Lib.hid (h_l.out.upD hbe)
      replace h_r := Lib.hid (h_r.out.upD hbe)
      replace h_t := Lib.hid (h_t.out.upD hbe)
      replace h_e := Lib.hid (h_e.out.upD hbe)
      replace h_i := Lib.hid (h_i.out.upD hbe)
      replace h_j := Lib.hid (h_j.out.upD hbe)
      replace hB := Lib.hid (hB.out.trans (hbe.mono hB.out.size))
      replace qj := (hbe.cell (p := ⟨tb, to + xl.length, none⟩) htb).trans qj
      clear hbe H
      have H := Lib.hid (pSame_eq 0 w12.heap.size 0 w12.heap.size Aj Ae 6 6 cj ce (runL xl rs) w12 hEL.out.symm hEL.out.symm (by rw [hEL.out]; omega) h_j.out h_e.out)
      go_wp2_with (fail)
      refine (H.out).mono ?_
      rintro e w13 ⟨rfl, n, hn⟩
      have hbe := yes_below hn
      clear hn n
      replace h_a := Lib.hid (h_a.out.upD hbe)
      replace h_b := Lib.hid (h_b.out.upD hbe)
      replace h_c := Lib.hid (h_c.out.upD hbe)
      replace h_l := Lib.hid (h_l.out.upD hbe)
      replace h_r := Lib.hid (h_r.out.upD hbe)
      replace h_t := Lib.hid (h_t.out.upD hbe)
      replace h_e := Lib.hid (h_e.out.upD hbe)
      replace h_i := Lib.hid (h_i.out.upD hbe)
      replace h_j := Lib.hid (h_j.out.upD hbe)
      replace hB := Lib.hid (hB.out.trans (hbe.mono hB.out.size))
      clear hbe H
      clear h_i h_j h_e qi qj htb
      go_wp2
      go_loopw [156] (fun i wr => ∃ k : Nat, k ≤ xl.length ∧ i = .int .i64 k ∧ Below w13.heap.size w13 wr) (fun i _ => xl.length - (intOf i).toNat)
      case atStart => exact ⟨0, Nat.zero_le _, rfl, Below.refl _ _⟩
      case round =>
        obtain ⟨k, hk, rfl, hbe⟩ := hrel
        have hBL := Lib.hid hbe
        replace h_a := Lib.hid (h_a.out.upD hbe)
        replace h_b := Lib.hid (h_b.out.upD hbe)
        replace h_c := Lib.hid (h_c.out.upD hbe)
        replace h_l := Lib.hid (h_l.out.upD hbe)
        replace h_r := Lib.hid (h_r.out.upD hbe)
        replace h_t := Lib.hid (h_t.out.upD hbe)
        replace hB := Lib.hid (hB.out.trans (hbe.mono hB.out.size))
        clear hbe
        by_cases hlt : k < xl.length
        · obtain ⟨lb, lo, rfl, _, hc⟩ := In.cells h_l.out (by omega)
          obtain ⟨c1, c2, c3, c4, c5⟩ := hc k hlt
          obtain ⟨Ai, ci, htb, qi, hIi⟩ := h_t.out.rowAt hRL.out (i := k) (by omega)
          obtain ⟨Aj, cj, _, qj, hIj⟩ := h_t.out.rowAt hRL.out (i := k + 1) (by omega)
          obtain ⟨hs1, hs2, hs3⟩ := step_run hOK.out hRG.out hlt
          have hl1 : (runL (xl.take k) rs).length = 6 := by rw [runL_len, hRL.out]
          have hl2 : (runL (xl.take (k + 1)) rs).length = 6 := by rw [runL_len, hRL.out]
          have hki : (k : Int) < (xl.length : Int) := by omega
          have hk0 : (0 : Int) ≤ (k : Int) := by omega
          have hki2 : (k : Int) + 1 < (xl.length : Int) + 1 := by omega
          have hki3 : (k : Int) < ((xl.length + 1 : Nat) : Int) := by omega
          have hki4 : (k : Int) + 1 < ((xl.length + 1 : Nat) : Int) := by omega
          have hki5 : (k : Int) < (xl.length : Int) + 1 := by omega
          have hk02 : (0 : Int) ≤ (k : Int) + 1 := by omega
          have hwk : IntKind.i64.wrap ((k : Int) + 1) = (k : Int) + 1 := IntWalk.i64_in _ (by omega)
          have hS := Lib.hid fun (L B : Nat) (A : Option Addr) (c : Nat) (W : World) (hI : IS W L B A (runL (xl.take k) rs)) (hB : B ≤ W.heap.size) => iStepInstr_any xl[k] L B A c (runL (xl.take k) rs) W (by rw [hl1]; omega) hI hB
          rw [hs1, hs2, hl1] at hS
          clear hc hs1 hs2
          generalize xl[k] = nd at *
          obtain ⟨op, d, a, b, m⟩ := nd
          dsimp only at *
          generalize runL (xl.take k) rs = R0 at *
          generalize runL (xl.take (k + 1)) rs = R1 at *
          have hS3 := Lib.hid hs3
          have hL1 := Lib.hid hl1
          have hL2 := Lib.hid hl2
          clear hs3 hl1 hl2
          have al := (Below.refl wr.heap.size wr).alloc (Nat.le_refl _) (.cells #[.string op, .int .i64 d, .int .i64 a, .int .i64 b, .int .i64 m] 56)
          have hXB : XB (wr.alloc (.cells #[.string op, .int .i64 d, .int .i64 a, .int .i64 b, .int .i64 m] 56)) wr.heap.size ⟨op, d, a, b, m⟩ := heap_alloc_new wr _
          have qi1 := (al.cell (p := ⟨tb, to + k, none⟩) htb).trans qi
          have qj1 := (al.cell (p := ⟨tb, to + (k + 1), none⟩) htb).trans qj
          have hIi1 := Lib.hid (IS.upD hIi al)
          have hIj1 := Lib.hid (IS.upD hIj al)
          have hAl := Lib.hid al
          have hz1 : Hid ((wr.alloc (.cells #[.string op, .int .i64 d, .int .i64 a, .int .i64 b, .int .i64 m] 56)).heap.size = wr.heap.size + 1) := World.size_alloc _ _
          clear al hIi hIj qi qj
          go_wp2_with (fail)
          generalize hW1 : wr.alloc (.cells #[.string op, .int .i64 d, .int .i64 a, .int .i64 b, .int .i64 m] 56) = W1 at *
          clear hW1
          obtain ⟨x0, x1, x2, x3, x4⟩ := hXB.cells
          simp only at x0 x1 x2 x3 x4
          have hX1 := Lib.hid hXB
          clear hXB
          have hTB : Hid (tb < W1.heap.size) := by have := hz1.out; unfold Hid; omega
          have hd1 := Lib.hid (Below.refl W1.heap.size W1).drew
          have hS1 := Lib.hid (hS.out 0 W1.heap.size Ai ci W1.drew (hIi1.out.below hd1.out (Nat.le_refl _)) (Nat.le_refl _))
          go_region_law (go_simp; go_at_call 37; (with_reducible refine hS1.out.mono ?_); rintro e w5 ⟨A5, c5', rfl, o5, hb5⟩)
          all_goals
            rw [hL2.out] at o5 ⊢
            have hbe : Below W1.heap.size W1 w5 := hd1.out.trans hb5
            have qj5 := (hbe.cell (p := ⟨tb, to + (k + 1), none⟩) hTB.out).trans qj1
            have qi5 := (hbe.cell (p := ⟨tb, to + k, none⟩) hTB.out).trans qi1
            have hIj5 := Lib.hid (hIj1.out.upD hbe)
            have hIi5 := Lib.hid (hIi1.out.upD hbe)
            have hI5 := Lib.hid ((OW.rs o5).more (Nat.zero_le _) (Nat.le_refl _))
            have hX5 : Hid (XB w5 wr.heap.size ⟨op, d, a, b, m⟩) := CB.below (show CB 56 W1 wr.heap.size (In.enc ⟨op, d, a, b, m⟩) from hX1.out) hbe (by have := hz1.out; omega)
            have hTB5 : tb < w5.heap.size := by have := hTB.out; have := hbe.size; omega
            have hb05 := Lib.hid (((Below.refl wr.heap.size wr).trans hAl.out).trans (hbe.mono (by have := hz1.out; omega)))
            have HP := Lib.hid (pSame_eq 0 w5.heap.size 0 w5.heap.size A5 Aj 6 6 c5' cj R1 w5 hL2.out.symm hL2.out.symm (by rw [hL2.out]; omega) hI5.out hIj5.out)
            clear hb5 o5 x0 x1 x2 x3 x4 qi1 qj1 c1 c2 c3 c4 c5 hbe
            go_simp
            go_wp2_with (fail)
            refine HP.out.mono ?_
            rintro e w6 ⟨rfl, n, hn⟩
            have hbe := yes_below hn
            clear hn n HP
            have qi6 := (hbe.cell (p := ⟨tb, to + k, none⟩) hTB5).trans qi5
            have hIi6 := Lib.hid (hIi5.out.upD hbe)
            have hI6 := Lib.hid (hI5.out.upD hbe)
            have hX6 : Hid (XB w6 wr.heap.size ⟨op, d, a, b, m⟩) := CB.below (show CB 56 w5 wr.heap.size (In.enc ⟨op, d, a, b, m⟩) from hX5.out) hbe (CB.lt hX5.out)
            have hXcb := Lib.hid (show CB 56 w6 wr.heap.size (In.enc ⟨op, d, a, b, m⟩) from hX6.out)
            have hTB6 : Hid (tb < w6.heap.size) := by have := hbe.size; unfold Hid; omega
            have hb06 := Lib.hid (hb05.out.trans (hbe.mono hb05.out.size))
            have hqi := Lib.hid qi6
            clear hbe qi5 qj5 qi6 hTB5
            go_wp2
            go_loopw [184] (fun i wz => ∃ r : Nat, r ≤ 6 ∧ i = .int .i64 r ∧ Below w6.heap.size w6 wz) (fun i _ => 6 - (intOf i).toNat)
            case atStart => exact ⟨0, Nat.zero_le _, rfl, Below.refl _ _⟩
            case round =>
              obtain ⟨r, hr, rfl, hbe⟩ := hrel
              have hBZ := Lib.hid hbe
              by_cases hr6 : r < 6
              · have qz := (hbe.cell (p := ⟨tb, to + k, none⟩) hTB6.out).trans hqi.out
                obtain ⟨za, zb, rfl, _, zc⟩ := (hI6.out.upD hbe) (by rw [hL2.out]; omega)
                obtain ⟨ya, yb, rfl, _, yc⟩ := (hIi6.out.upD hbe) (by rw [hL1.out]; omega)
                have zr := zc r (by rw [hL2.out]; exact hr6)
                have yr := yc r (by rw [hL1.out]; exact hr6)
                have hXz := CB.below hXcb.out hbe (CB.lt hXcb.out)
                have xd := (CB.cell hXz 1).trans (rfl : _ = some (Value.int .i64 d))
                have hr0 : (0 : Int) ≤ (r : Int) := by omega
                have hr1 : (r : Int) < 6 := by omega
                have hEq := Lib.hid fun (h : ¬ (r : Int) = d) => (by have h9 := hS3.out r hr6 h; rw [List.getD_eq_getElem?_getD, List.getD_eq_getElem?_getD, List.getElem?_eq_getElem (by rw [hL2.out]; exact hr6), List.getElem?_eq_getElem (by rw [hL1.out]; exact hr6)] at h9; exact h9 : R1[r]'(by rw [hL2.out]; exact hr6) = R0[r]'(by rw [hL1.out]; exact hr6))
                clear zc yc hXz hbe
                generalize R1[r]'(by rw [hL2.out]; exact hr6) = v1 at *
                generalize R0[r]'(by rw [hL1.out]; exact hr6) = v0 at *
                by_cases hd : (r : Int) = d
                · subst hd
                  go_wp2_with (fail)
                  go_quiet (fail)
                  all_goals go_wp2
                  all_goals go_roundw
                  case rel => exact ⟨r + 1, by omega, by go_num, below_drewD hBZ.out _⟩
                  case measure => simp [intOf]; omega
                · have e := hEq.out hd
                  subst e
                  go_wp2_with (fail)
                  go_quiet (fail)
                  all_goals go_wp2
                  all_goals go_roundw
                  case rel => exact ⟨r + 1, by omega, by go_num, below_drewD hBZ.out _⟩
                  case measure => simp [intOf]; omega
              · obtain rfl : r = 6 := by omega
                have hfin := Lib.hid (hBL.out.trans ((hb06.out.trans (hBZ.out.mono hb06.out.size)).mono hBL.out.size))
                go_wp2
                go_roundw
                case rel => exact ⟨k + 1, by omega, by go_num, hfin.out⟩
                case measure => simp [intOf]; omega
        · have hke : k = xl.length := by omega
          subst hke
          clear hlt hk hBL
          have H := Lib.hid (DrawResultOf_d A c bs wr (by omega) hA.out (hBY.out _ hB.out))
          go_wp2_with (fail)
          refine (H.out).mono ?_
          rintro e w14 ⟨_, xo, x0, x1, r, rfl, ⟨Ao, co, rfl, no, ko, so, ro⟩, hbe⟩
          replace h_a := Lib.hid (h_a.out.upD hbe)
          replace h_b := Lib.hid (h_b.out.upD hbe)
          replace h_c := Lib.hid (h_c.out.upD hbe)
          replace h_l := Lib.hid (h_l.out.upD hbe)
          replace h_r := Lib.hid (h_r.out.upD hbe)
          replace h_t := Lib.hid (h_t.out.upD hbe)
          replace hB := Lib.hid (hB.out.trans (hbe.mono hB.out.size))
          have h_o := Lib.hid (ro.more (Nat.zero_le _) (Nat.le_refl _))
          clear hbe H
          clear ro so ko
          have H := Lib.hid (iResultOf_any 0 w14.heap.size Ao co xo x0 x1 r w14 (by omega) h_o.out (Nat.le_refl _))
          go_wp2_with (fail)
          refine (H.out).mono ?_
          rintro e w15 ⟨rfl, hbe⟩
          replace h_a := Lib.hid (h_a.out.upD hbe)
          replace h_b := Lib.hid (h_b.out.upD hbe)
          replace h_c := Lib.hid (h_c.out.upD hbe)
          replace h_l := Lib.hid (h_l.out.upD hbe)
          replace h_r := Lib.hid (h_r.out.upD hbe)
          replace h_t := Lib.hid (h_t.out.upD hbe)
          replace h_o := Lib.hid (h_o.out.upD hbe)
          replace hB := Lib.hid (hB.out.trans (hbe.mono hB.out.size))
          clear hbe H
          have H := Lib.hid (sResultOf_any 0 w15.heap.size Ao co xo x0 x1 r w15 (by omega) h_o.out (Nat.le_refl _))
          go_wp2_with (fail)
          refine (H.out).mono ?_
          rintro e w16 ⟨rfl, hbe⟩
          replace h_a := Lib.hid (h_a.out.upD hbe)
          replace h_b := Lib.hid (h_b.out.upD hbe)
          replace h_c := Lib.hid (h_c.out.upD hbe)
          replace h_l := Lib.hid (h_l.out.upD hbe)
          replace h_r := Lib.hid (h_r.out.upD hbe)
          replace h_t := Lib.hid (h_t.out.upD hbe)
          replace h_o := Lib.hid (h_o.out.upD hbe)
          replace hB := Lib.hid (hB.out.trans (hbe.mono hB.out.size))
          clear hbe H
          clear h_o
          cases hq : resOk xo x0 x1 r
          · go_wp2
            go_ret
            exact ⟨rfl, hB.out⟩
          · go_wp2
            go_ret
            exact ⟨rfl, hB.out⟩
  · skip
    have H := Lib.hid (pSameCode_eq 0 w3.heap.size 0 w3.heap.size Ac Ad _ _ cc cd (joinR xa xb) w3 rfl rfl hjl.out h_c.out h_d.out)
    go_wp2_with (fail)
    refine (H.out).mono ?_
    rintro e w4 ⟨rfl, n, hn⟩
    have hbe := yes_below hn
    clear hn n
    replace h_a := Lib.hid (h_a.out.upD hbe)
    replace h_b := Lib.hid (h_b.out.upD hbe)
    replace h_c := Lib.hid (h_c.out.upD hbe)
    replace h_d := Lib.hid (h_d.out.upD hbe)
    replace hB := Lib.hid (hB.out.trans (hbe.mono hB.out.size))
    clear hbe H
    clear h_d
    have H := Lib.hid (DrawTraceOf_d A' c' bs' w4 (by omega) hA'.out (hBY'.out _ hB.out))
    go_wp2_with (fail)
    refine (H.out).mono ?_
    rintro e w5 ⟨_, _, xl, rs, rfl, ⟨Al, cl, rfl, nl, kl, sl, rl⟩, ⟨Ar, cr, rfl, nr, rr⟩, hbe⟩
    replace h_a := Lib.hid (h_a.out.upD hbe)
    replace h_b := Lib.hid (h_b.out.upD hbe)
    replace h_c := Lib.hid (h_c.out.upD hbe)
    replace hB := Lib.hid (hB.out.trans (hbe.mono hB.out.size))
    have h_l := Lib.hid (rl.more (Nat.zero_le _) (Nat.le_refl _))
    have h_r := Lib.hid (rr.more (Nat.zero_le _) (Nat.le_refl _))
    clear hbe H
    clear rl rr sl kl
    have H := Lib.hid (iTraceOf_k 0 w5.heap.size Al cl xl 0 w5.heap.size Ar cr rs w5 (by omega) h_l.out (Nat.le_refl _) (by omega) h_r.out (Nat.le_refl _))
    go_wp2_with (fail)
    refine (H.out).mono ?_
    rintro e w6 ⟨At, ct, rfl, ot, hbe⟩
    replace h_a := Lib.hid (h_a.out.upD hbe)
    replace h_b := Lib.hid (h_b.out.upD hbe)
    replace h_c := Lib.hid (h_c.out.upD hbe)
    replace h_l := Lib.hid (h_l.out.upD hbe)
    replace h_r := Lib.hid (h_r.out.upD hbe)
    replace hB := Lib.hid (hB.out.trans (hbe.mono hB.out.size))
    have h_t := Lib.hid ((OX.rs ot).lowD)
    clear hbe H
    clear ot
    have H := Lib.hid (sTraceOf_k 0 w6.heap.size Al cl xl 0 w6.heap.size Ar cr rs w6 (by omega) h_l.out (Nat.le_refl _) (by omega) h_r.out (Nat.le_refl _))
    go_wp2_with (fail)
    refine (H.out).mono ?_
    rintro e w7 ⟨Au, cu, rfl, ou, hbe⟩
    replace h_a := Lib.hid (h_a.out.upD hbe)
    replace h_b := Lib.hid (h_b.out.upD hbe)
    replace h_c := Lib.hid (h_c.out.upD hbe)
    replace h_l := Lib.hid (h_l.out.upD hbe)
    replace h_r := Lib.hid (h_r.out.upD hbe)
    replace h_t := Lib.hid (h_t.out.upD hbe)
    replace hB := Lib.hid (hB.out.trans (hbe.mono hB.out.size))
    have h_u := Lib.hid ((OX.rs ou).lowD)
    clear hbe H
    clear ou
    have H := Lib.hid (show Calls Try.prog 34 #[.slice Al xl.length cl, .slice Ar rs.length cr] w7 (ResRunCode (runR xl rs) (trOk xl rs) w7) from iRunCode_any 0 w7.heap.size Al cl xl 0 w7.heap.size Ar cr rs w7 (by omega) h_l.out (Nat.le_refl _) (by omega) h_r.out (Nat.le_refl _))
    go_wp2_with (fail)
    refine (H.out).mono ?_
    rintro e w8 ⟨Ae, ce, rfl, oe, hbe⟩
    replace h_a := Lib.hid (h_a.out.upD hbe)
    replace h_b := Lib.hid (h_b.out.upD hbe)
    replace h_c := Lib.hid (h_c.out.upD hbe)
    replace h_l := Lib.hid (h_l.out.upD hbe)
    replace h_r := Lib.hid (h_r.out.upD hbe)
    replace h_t := Lib.hid (h_t.out.upD hbe)
    replace h_u := Lib.hid (h_u.out.upD hbe)
    replace hB := Lib.hid (hB.out.trans (hbe.mono hB.out.size))
    have h_e := Lib.hid (IS.more (OW.rs oe) (Nat.zero_le _) (Nat.le_refl _))
    clear hbe H
    clear oe
    have H := Lib.hid (show Calls Try.prog 35 #[.slice Al xl.length cl, .slice Ar rs.length cr] w8 (ResRunCode (runR xl rs) (trOk xl rs) w8) from sRunCode_any 0 w8.heap.size Al cl xl 0 w8.heap.size Ar cr rs w8 (by omega) h_l.out (Nat.le_refl _) (by omega) h_r.out (Nat.le_refl _))
    go_wp2_with (fail)
    refine (H.out).mono ?_
    rintro e w9 ⟨Af, cf, rfl, of, hbe⟩
    replace h_a := Lib.hid (h_a.out.upD hbe)
    replace h_b := Lib.hid (h_b.out.upD hbe)
    replace h_c := Lib.hid (h_c.out.upD hbe)
    replace h_l := Lib.hid (h_l.out.upD hbe)
    replace h_r := Lib.hid (h_r.out.upD hbe)
    replace h_t := Lib.hid (h_t.out.upD hbe)
    replace h_u := Lib.hid (h_u.out.upD hbe)
    replace h_e := Lib.hid (h_e.out.upD hbe)
    replace hB := Lib.hid (hB.out.trans (hbe.mono hB.out.size))
    have h_f := Lib.hid (IS.more (OW.rs of) (Nat.zero_le _) (Nat.le_refl _))
    clear hbe H
    clear of
    have htl := Lib.hid (trR_len9 xl rs)
    have hts := Lib.hid (trR_lens xl rs)
    have hrl := Lib.hid (runR_len xl rs)
    cases hT : trOk xl rs
    · skip
      have H := Lib.hid (pSameRows_eq 0 w9.heap.size 0 w9.heap.size At Au _ _ ct cu (trR xl rs) w9 rfl rfl htl.out hts.out h_t.out h_u.out)
      go_wp2_with (fail)
      refine (H.out).mono ?_
      rintro e w10 ⟨rfl, n, hn⟩
      have hbe := yes_below hn
      clear hn n
      replace h_a := Lib.hid (h_a.out.upD hbe)
      replace h_b := Lib.hid (h_b.out.upD hbe)
      replace h_c := Lib.hid (h_c.out.upD hbe)
      replace h_l := Lib.hid (h_l.out.upD hbe)
      replace h_r := Lib.hid (h_r.out.upD hbe)
      replace h_t := Lib.hid (h_t.out.upD hbe)
      replace h_u := Lib.hid (h_u.out.upD hbe)
      replace h_e := Lib.hid (h_e.out.upD hbe)
      replace h_f := Lib.hid (h_f.out.upD hbe)
      replace hB := Lib.hid (hB.out.trans (hbe.mono hB.out.size))
      clear hbe H
      have H := Lib.hid (pSame_eq 0 w10.heap.size 0 w10.heap.size Ae Af _ _ ce cf (runR xl rs) w10 rfl rfl hrl.out h_e.out h_f.out)
      go_wp2_with (fail)
      refine (H.out).mono ?_
      rintro e w11 ⟨rfl, n, hn⟩
      have hbe := yes_below hn
      clear hn n
      replace h_a := Lib.hid (h_a.out.upD hbe)
      replace h_b := Lib.hid (h_b.out.upD hbe)
      replace h_c := Lib.hid (h_c.out.upD hbe)
      replace h_l := Lib.hid (h_l.out.upD hbe)
      replace h_r := Lib.hid (h_r.out.upD hbe)
      replace h_t := Lib.hid (h_t.out.upD hbe)
      replace h_u := Lib.hid (h_u.out.upD hbe)
      replace h_e := Lib.hid (h_e.out.upD hbe)
      replace h_f := Lib.hid (h_f.out.upD hbe)
      replace hB := Lib.hid (hB.out.trans (hbe.mono hB.out.size))
      clear hbe H
      clear h_u
      clear h_f
      have H := Lib.hid (DrawResultOf_d A c bs w11 (by omega) hA.out (hBY.out _ hB.out))
      go_wp2_with (fail)
      refine (H.out).mono ?_
      rintro e w12 ⟨_, xo, x0, x1, r, rfl, ⟨Ao, co, rfl, no, ko, so, ro⟩, hbe⟩
      replace h_a := Lib.hid (h_a.out.upD hbe)
      replace h_b := Lib.hid (h_b.out.upD hbe)
      replace h_c := Lib.hid (h_c.out.upD hbe)
      replace h_l := Lib.hid (h_l.out.upD hbe)
      replace h_r := Lib.hid (h_r.out.upD hbe)
      replace h_t := Lib.hid (h_t.out.upD hbe)
      replace h_e := Lib.hid (h_e.out.upD hbe)
      replace hB := Lib.hid (hB.out.trans (hbe.mono hB.out.size))
      have h_o := Lib.hid (ro.more (Nat.zero_le _) (Nat.le_refl _))
      clear hbe H
      clear ro so ko
      have H := Lib.hid (iResultOf_any 0 w12.heap.size Ao co xo x0 x1 r w12 (by omega) h_o.out (Nat.le_refl _))
      go_wp2_with (fail)
      refine (H.out).mono ?_
      rintro e w13 ⟨rfl, hbe⟩
      replace h_a := Lib.hid (h_a.out.upD hbe)
      replace h_b := Lib.hid (h_b.out.upD hbe)
      replace h_c := Lib.hid (h_c.out.upD hbe)
      replace h_l := Lib.hid (h_l.out.upD hbe)
      replace h_r := Lib.hid (h_r.out.upD hbe)
      replace h_t := Lib.hid (h_t.out.upD hbe)
      replace h_e := Lib.hid (h_e.out.upD hbe)
      replace h_o := Lib.hid (h_o.out.upD hbe)
      replace hB := Lib.hid (hB.out.trans (hbe.mono hB.out.size))
      clear hbe H
      have H := Lib.hid (sResultOf_any 0 w13.heap.size Ao co xo x0 x1 r w13 (by omega) h_o.out (Nat.le_refl _))
      go_wp2_with (fail)
      refine (H.out).mono ?_
      rintro e w14 ⟨rfl, hbe⟩
      replace h_a := Lib.hid (h_a.out.upD hbe)
      replace h_b := Lib.hid (h_b.out.upD hbe)
      replace h_c := Lib.hid (h_c.out.upD hbe)
      replace h_l := Lib.hid (h_l.out.upD hbe)
      replace h_r := Lib.hid (h_r.out.upD hbe)
      replace h_t := Lib.hid (h_t.out.upD hbe)
      replace h_e := Lib.hid (h_e.out.upD hbe)
      replace h_o := Lib.hid (h_o.out.upD hbe)
      replace hB := Lib.hid (hB.out.trans (hbe.mono hB.out.size))
      clear hbe H
      clear h_o
      cases hq : resOk xo x0 x1 r
      · go_wp2
        go_ret
        exact ⟨rfl, hB.out⟩
      · go_wp2
        go_ret
        exact ⟨rfl, hB.out⟩
    · skip
      have H := Lib.hid (pSameRows_eq 0 w9.heap.size 0 w9.heap.size At Au _ _ ct cu (trR xl rs) w9 rfl rfl htl.out hts.out h_t.out h_u.out)
      go_wp2_with (fail)
      refine (H.out).mono ?_
      rintro e w10 ⟨rfl, n, hn⟩
      have hbe := yes_below hn
      clear hn n
      replace h_a := Lib.hid (h_a.out.upD hbe)
      replace h_b := Lib.hid (h_b.out.upD hbe)
      replace h_c := Lib.hid (h_c.out.upD hbe)
      replace h_l := Lib.hid (h_l.out.upD hbe)
      replace h_r := Lib.hid (h_r.out.upD hbe)
      replace h_t := Lib.hid (h_t.out.upD hbe)
      replace h_u := Lib.hid (h_u.out.upD hbe)
      replace h_e := Lib.hid (h_e.out.upD hbe)
      replace h_f := Lib.hid (h_f.out.upD hbe)
      replace hB := Lib.hid (hB.out.trans (hbe.mono hB.out.size))
      clear hbe H
      have H := Lib.hid (pSame_eq 0 w10.heap.size 0 w10.heap.size Ae Af _ _ ce cf (runR xl rs) w10 rfl rfl hrl.out h_e.out h_f.out)
      go_wp2_with (fail)
      refine (H.out).mono ?_
      rintro e w11 ⟨rfl, n, hn⟩
      have hbe := yes_below hn
      clear hn n
      replace h_a := Lib.hid (h_a.out.upD hbe)
      replace h_b := Lib.hid (h_b.out.upD hbe)
      replace h_c := Lib.hid (h_c.out.upD hbe)
      replace h_l := Lib.hid (h_l.out.upD hbe)
      replace h_r := Lib.hid (h_r.out.upD hbe)
      replace h_t := Lib.hid (h_t.out.upD hbe)
      replace h_u := Lib.hid (h_u.out.upD hbe)
      replace h_e := Lib.hid (h_e.out.upD hbe)
      replace h_f := Lib.hid (h_f.out.upD hbe)
      replace hB := Lib.hid (hB.out.trans (hbe.mono hB.out.size))
      clear hbe H
      clear h_u
      clear h_f
      obtain ⟨hok, hrg⟩ := trOk_parts hT
      have hR6 := (regsOk_words hrg).1
      have eT := (trOk_yes hok hrg).2
      have eR : runR xl rs = runL xl rs := by unfold runR; rw [if_pos]; exact hT
      have hTl := trL_len xl rs xl.length
      have hRl : (runL xl rs).length = 6 := by rw [runL_len, hR6]
      rw [eT] at h_t
      rw [eR] at h_e
      rw [eT, eR, hTl, hRl, hR6]
      clear htl hts hrl eT eR hTl
      have h20 : xl.length ≤ 40 := okCode_len hok
      obtain ⟨tb, to, rfl⟩ := h_t.out.rowD hR6
      have hRL := Lib.hid hR6
      have hEL := Lib.hid hRl
      have hOK := Lib.hid hok
      have hRG := Lib.hid hrg
      have hT9 := Lib.hid hT
      have hJ9 := Lib.hid hJ
      clear hok hrg hT hR6 hRl hJ
      have hw1 : IntKind.i64.wrap ((xl.length : Int) + 1) = (xl.length : Int) + 1 := IntWalk.i64_in _ (by omega)
      obtain ⟨Ai, ci, _, qi, hIi⟩ := h_t.out.rowAt hRL.out (i := 0) (Nat.zero_le _)
      obtain ⟨Aj, cj, htb, qj, hIj⟩ := h_t.out.rowAt hRL.out (i := xl.length) (Nat.le_refl _)
      rw [Nat.add_zero] at qi
      rw [show runL (xl.take 0) rs = rs from rfl] at hIi
      rw [List.take_length] at hIj
      have hn0 : (0 : Int) ≤ (xl.length : Int) := by omega
      have hn1 : (xl.length : Int) < (xl.length : Int) + 1 := by omega
      have h_i := Lib.hid hIi
      have h_j := Lib.hid hIj
      clear hIi hIj
      have H := Lib.hid (pSame_eq 0 w11.heap.size 0 w11.heap.size Ai Ar 6 6 ci cr rs w11 hRL.out.symm hRL.out.symm (by rw [hRL.out]; omega) h_i.out h_r.out)
      go_wp2_with (fail)
      refine (H.out).mono ?_
      rintro e w12 ⟨rfl, n, hn⟩
      have hbe := yes_below hn
      clear hn n
      replace h_a := Lib.hid (h_a.out.upD hbe)
      replace h_b := Lib.hid (h_b.out.upD hbe)
      replace h_c := Lib.hid (h_c.out.upD hbe)
      replace h_l := Lib.hid (h_l.out.upD hbe)
      replace h_r := Lib.hid (h_r.out.upD hbe)
      replace h_t := Lib.hid (h_t.out.upD hbe)
      replace h_e := Lib.hid (h_e.out.upD hbe)
      replace h_i := Lib.hid (h_i.out.upD hbe)
      replace h_j := Lib.hid (h_j.out.upD hbe)
      replace hB := Lib.hid (hB.out.trans (hbe.mono hB.out.size))
      replace qj := (hbe.cell (p := ⟨tb, to + xl.length, none⟩) htb).trans qj
      clear hbe H
      have H := Lib.hid (pSame_eq 0 w12.heap.size 0 w12.heap.size Aj Ae 6 6 cj ce (runL xl rs) w12 hEL.out.symm hEL.out.symm (by rw [hEL.out]; omega) h_j.out h_e.out)
      go_wp2_with (fail)
      refine (H.out).mono ?_
      rintro e w13 ⟨rfl, n, hn⟩
      have hbe := yes_below hn
      clear hn n
      replace h_a := Lib.hid (h_a.out.upD hbe)
      replace h_b := Lib.hid (h_b.out.upD hbe)
      replace h_c := Lib.hid (h_c.out.upD hbe)
      replace h_l := Lib.hid (h_l.out.upD hbe)
      replace h_r := Lib.hid (h_r.out.upD hbe)
      replace h_t := Lib.hid (h_t.out.upD hbe)
      replace h_e := Lib.hid (h_e.out.upD hbe)
      replace h_i := Lib.hid (h_i.out.upD hbe)
      replace h_j := Lib.hid (h_j.out.upD hbe)
      replace hB := Lib.hid (hB.out.trans (hbe.mono hB.out.size))
      clear hbe H
      clear h_i h_j h_e qi qj htb
      go_wp2
      go_loopw [156] (fun i wr => ∃ k : Nat, k ≤ xl.length ∧ i = .int .i64 k ∧ Below w13.heap.size w13 wr) (fun i _ => xl.length - (intOf i).toNat)
      case atStart => exact ⟨0, Nat.zero_le _, rfl, Below.refl _ _⟩
      case round =>
        obtain ⟨k, hk, rfl, hbe⟩ := hrel
        have hBL := Lib.hid hbe
        replace h_a := Lib.hid (h_a.out.upD hbe)
        replace h_b := Lib.hid (h_b.out.upD hbe)
        replace h_c := Lib.hid (h_c.out.upD hbe)
        replace h_l := Lib.hid (h_l.out.upD hbe)
        replace h_r := Lib.hid (h_r.out.upD hbe)
        replace h_t := Lib.hid (h_t.out.upD hbe)
        replace hB := Lib.hid (hB.out.trans (hbe.mono hB.out.size))
        clear hbe
        by_cases hlt : k < xl.length
        · obtain ⟨lb, lo, rfl, _, hc⟩ := In.cells h_l.out (by omega)
          obtain ⟨c1, c2, c3, c4, c5⟩ := hc k hlt
          obtain ⟨Ai, ci, htb, qi, hIi⟩ := h_t.out.rowAt hRL.out (i := k) (by omega)
          obtain ⟨Aj, cj, _, qj, hIj⟩ := h_t.out.rowAt hRL.out (i := k + 1) (by omega)
          obtain ⟨hs1, hs2, hs3⟩ := step_run hOK.out hRG.out hlt
          have hl1 : (runL (xl.take k) rs).length = 6 := by rw [runL_len, hRL.out]
          have hl2 : (runL (xl.take (k + 1)) rs).length = 6 := by rw [runL_len, hRL.out]
          have hki : (k : Int) < (xl.length : Int) := by omega
          have hk0 : (0 : Int) ≤ (k : Int) := by omega
          have hki2 : (k : Int) + 1 < (xl.length : Int) + 1 := by omega
          have hki3 : (k : Int) < ((xl.length + 1 : Nat) : Int) := by omega
          have hki4 : (k : Int) + 1 < ((xl.length + 1 : Nat) : Int) := by omega
          have hki5 : (k : Int) < (xl.length : Int) + 1 := by omega
          have hk02 : (0 : Int) ≤ (k : Int) + 1 := by omega
          have hwk : IntKind.i64.wrap ((k : Int) + 1) = (k : Int) + 1 := IntWalk.i64_in _ (by omega)
          have hS := Lib.hid fun (L B : Nat) (A : Option Addr) (c : Nat) (W : World) (hI : IS W L B A (runL (xl.take k) rs)) (hB : B ≤ W.heap.size) => iStepInstr_any xl[k] L B A c (runL (xl.take k) rs) W (by rw [hl1]; omega) hI hB
          rw [hs1, hs2, hl1] at hS
          clear hc hs1 hs2
          generalize xl[k] = nd at *
          obtain ⟨op, d, a, b, m⟩ := nd
          dsimp only at *
          generalize runL (xl.take k) rs = R0 at *
          generalize runL (xl.take (k + 1)) rs = R1 at *
          have hS3 := Lib.hid hs3
          have hL1 := Lib.hid hl1
          have hL2 := Lib.hid hl2
          clear hs3 hl1 hl2
          have al := (Below.refl wr.heap.size wr).alloc (Nat.le_refl _) (.cells #[.string op, .int .i64 d, .int .i64 a, .int .i64 b, .int .i64 m] 56)
          have hXB : XB (wr.alloc (.cells #[.string op, .int .i64 d, .int .i64 a, .int .i64 b, .int .i64 m] 56)) wr.heap.size ⟨op, d, a, b, m⟩ := heap_alloc_new wr _
          have qi1 := (al.cell (p := ⟨tb, to + k, none⟩) htb).trans qi
          have qj1 := (al.cell (p := ⟨tb, to + (k + 1), none⟩) htb).trans qj
          have hIi1 := Lib.hid (IS.upD hIi al)
          have hIj1 := Lib.hid (IS.upD hIj al)
          have hAl := Lib.hid al
          have hz1 : Hid ((wr.alloc (.cells #[.string op, .int .i64 d, .int .i64 a, .int .i64 b, .int .i64 m] 56)).heap.size = wr.heap.size + 1) := World.size_alloc _ _
          clear al hIi hIj qi qj
          go_wp2_with (fail)
          generalize hW1 : wr.alloc (.cells #[.string op, .int .i64 d, .int .i64 a, .int .i64 b, .int .i64 m] 56) = W1 at *
          clear hW1
          obtain ⟨x0, x1, x2, x3, x4⟩ := hXB.cells
          simp only at x0 x1 x2 x3 x4
          have hX1 := Lib.hid hXB
          clear hXB
          have hTB : Hid (tb < W1.heap.size) := by have := hz1.out; unfold Hid; omega
          have hd1 := Lib.hid (Below.refl W1.heap.size W1).drew
          have hS1 := Lib.hid (hS.out 0 W1.heap.size Ai ci W1.drew (hIi1.out.below hd1.out (Nat.le_refl _)) (Nat.le_refl _))
          go_region_law (go_simp; go_at_call 37; (with_reducible refine hS1.out.mono ?_); rintro e w5 ⟨A5, c5', rfl, o5, hb5⟩)
          all_goals
            rw [hL2.out] at o5 ⊢
            have hbe : Below W1.heap.size W1 w5 := hd1.out.trans hb5
            have qj5 := (hbe.cell (p := ⟨tb, to + (k + 1), none⟩) hTB.out).trans qj1
            have qi5 := (hbe.cell (p := ⟨tb, to + k, none⟩) hTB.out).trans qi1
            have hIj5 := Lib.hid (hIj1.out.upD hbe)
            have hIi5 := Lib.hid (hIi1.out.upD hbe)
            have hI5 := Lib.hid ((OW.rs o5).more (Nat.zero_le _) (Nat.le_refl _))
            have hX5 : Hid (XB w5 wr.heap.size ⟨op, d, a, b, m⟩) := CB.below (show CB 56 W1 wr.heap.size (In.enc ⟨op, d, a, b, m⟩) from hX1.out) hbe (by have := hz1.out; omega)
            have hTB5 : tb < w5.heap.size := by have := hTB.out; have := hbe.size; omega
            have hb05 := Lib.hid (((Below.refl wr.heap.size wr).trans hAl.out).trans (hbe.mono (by have := hz1.out; omega)))
            have HP := Lib.hid (pSame_eq 0 w5.heap.size 0 w5.heap.size A5 Aj 6 6 c5' cj R1 w5 hL2.out.symm hL2.out.symm (by rw [hL2.out]; omega) hI5.out hIj5.out)
            clear hb5 o5 x0 x1 x2 x3 x4 qi1 qj1 c1 c2 c3 c4 c5 hbe
            go_simp
            go_wp2_with (fail)
            refine HP.out.mono ?_
            rintro e w6 ⟨rfl, n, hn⟩
            have hbe := yes_below hn
            clear hn n HP
            have qi6 := (hbe.cell (p := ⟨tb, to + k, none⟩) hTB5).trans qi5
            have hIi6 := Lib.hid (hIi5.out.upD hbe)
            have hI6 := Lib.hid (hI5.out.upD hbe)
            have hX6 : Hid (XB w6 wr.heap.size ⟨op, d, a, b, m⟩) := CB.below (show CB 56 w5 wr.heap.size (In.enc ⟨op, d, a, b, m⟩) from hX5.out) hbe (CB.lt hX5.out)
            have hXcb := Lib.hid (show CB 56 w6 wr.heap.size (In.enc ⟨op, d, a, b, m⟩) from hX6.out)
            have hTB6 : Hid (tb < w6.heap.size) := by have := hbe.size; unfold Hid; omega
            have hb06 := Lib.hid (hb05.out.trans (hbe.mono hb05.out.size))
            have hqi := Lib.hid qi6
            clear hbe qi5 qj5 qi6 hTB5
            go_wp2
            go_loopw [184] (fun i wz => ∃ r : Nat, r ≤ 6 ∧ i = .int .i64 r ∧ Below w6.heap.size w6 wz) (fun i _ => 6 - (intOf i).toNat)
            case atStart => exact ⟨0, Nat.zero_le _, rfl, Below.refl _ _⟩
            case round =>
              obtain ⟨r, hr, rfl, hbe⟩ := hrel
              have hBZ := Lib.hid hbe
              by_cases hr6 : r < 6
              · have qz := (hbe.cell (p := ⟨tb, to + k, none⟩) hTB6.out).trans hqi.out
                obtain ⟨za, zb, rfl, _, zc⟩ := (hI6.out.upD hbe) (by rw [hL2.out]; omega)
                obtain ⟨ya, yb, rfl, _, yc⟩ := (hIi6.out.upD hbe) (by rw [hL1.out]; omega)
                have zr := zc r (by rw [hL2.out]; exact hr6)
                have yr := yc r (by rw [hL1.out]; exact hr6)
                have hXz := CB.below hXcb.out hbe (CB.lt hXcb.out)
                have xd := (CB.cell hXz 1).trans (rfl : _ = some (Value.int .i64 d))
                have hr0 : (0 : Int) ≤ (r : Int) := by omega
                have hr1 : (r : Int) < 6 := by omega
                have hEq := Lib.hid fun (h : ¬ (r : Int) = d) => (by have h9 := hS3.out r hr6 h; rw [List.getD_eq_getElem?_getD, List.getD_eq_getElem?_getD, List.getElem?_eq_getElem (by rw [hL2.out]; exact hr6), List.getElem?_eq_getElem (by rw [hL1.out]; exact hr6)] at h9; exact h9 : R1[r]'(by rw [hL2.out]; exact hr6) = R0[r]'(by rw [hL1.out]; exact hr6))
                clear zc yc hXz hbe
                generalize R1[r]'(by rw [hL2.out]; exact hr6) = v1 at *
                generalize R0[r]'(by rw [hL1.out]; exact hr6) = v0 at *
                by_cases hd : (r : Int) = d
                · subst hd
                  go_wp2_with (fail)
                  go_quiet (fail)
                  all_goals go_wp2
                  all_goals go_roundw
                  case rel => exact ⟨r + 1, by omega, by go_num, below_drewD hBZ.out _⟩
                  case measure => simp [intOf]; omega
                · have e := hEq.out hd
                  subst e
                  go_wp2_with (fail)
                  go_quiet (fail)
                  all_goals go_wp2
                  all_goals go_roundw
                  case rel => exact ⟨r + 1, by omega, by go_num, below_drewD hBZ.out _⟩
                  case measure => simp [intOf]; omega
              · obtain rfl : r = 6 := by omega
                have hfin := Lib.hid (hBL.out.trans ((hb06.out.trans (hBZ.out.mono hb06.out.size)).mono hBL.out.size))
                go_wp2
                go_roundw
                case rel => exact ⟨k + 1, by omega, by go_num, hfin.out⟩
                case measure => simp [intOf]; omega
        · have hke : k = xl.length := by omega
          subst hke
          clear hlt hk hBL
          have H := Lib.hid (DrawResultOf_d A c bs wr (by omega) hA.out (hBY.out _ hB.out))
          go_wp2_with (fail)
          refine (H.out).mono ?_
          rintro e w14 ⟨_, xo, x0, x1, r, rfl, ⟨Ao, co, rfl, no, ko, so, ro⟩, hbe⟩
          replace h_a := Lib.hid (h_a.out.upD hbe)
          replace h_b := Lib.hid (h_b.out.upD hbe)
          replace h_c := Lib.hid (h_c.out.upD hbe)
          replace h_l := Lib.hid (h_l.out.upD hbe)
          replace h_r := Lib.hid (h_r.out.upD hbe)
          replace h_t := Lib.hid (h_t.out.upD hbe)
          replace hB := Lib.hid (hB.out.trans (hbe.mono hB.out.size))
          have h_o := Lib.hid (ro.more (Nat.zero_le _) (Nat.le_refl _))
          clear hbe H
          clear ro so ko
          have H := Lib.hid (iResultOf_any 0 w14.heap.size Ao co xo x0 x1 r w14 (by omega) h_o.out (Nat.le_refl _))
          go_wp2_with (fail)
          refine (H.out).mono ?_
          rintro e w15 ⟨rfl, hbe⟩
          replace h_a := Lib.hid (h_a.out.upD hbe)
          replace h_b := Lib.hid (h_b.out.upD hbe)
          replace h_c := Lib.hid (h_c.out.upD hbe)
          replace h_l := Lib.hid (h_l.out.upD hbe)
          replace h_r := Lib.hid (h_r.out.upD hbe)
          replace h_t := Lib.hid (h_t.out.upD hbe)
          replace h_o := Lib.hid (h_o.out.upD hbe)
          replace hB := Lib.hid (hB.out.trans (hbe.mono hB.out.size))
          clear hbe H
          have H := Lib.hid (sResultOf_any 0 w15.heap.size Ao co xo x0 x1 r w15 (by omega) h_o.out (Nat.le_refl _))
          go_wp2_with (fail)
          refine (H.out).mono ?_
          rintro e w16 ⟨rfl, hbe⟩
          replace h_a := Lib.hid (h_a.out.upD hbe)
          replace h_b := Lib.hid (h_b.out.upD hbe)
          replace h_c := Lib.hid (h_c.out.upD hbe)
          replace h_l := Lib.hid (h_l.out.upD hbe)
          replace h_r := Lib.hid (h_r.out.upD hbe)
          replace h_t := Lib.hid (h_t.out.upD hbe)
          replace h_o := Lib.hid (h_o.out.upD hbe)
          replace hB := Lib.hid (hB.out.trans (hbe.mono hB.out.size))
          clear hbe H
          clear h_o
          cases hq : resOk xo x0 x1 r
          · obtain ⟨e1, k1, e2, k2, e3, k3, es, ha, hb, hc, b1, b2, b3, b4⟩ := join_run hJ9.out hRG.out
            have ej := (joinOk_parts hJ9.out).2.2.2
            rw [ej] at h_c ⊢
            have hwc : IntKind.i64.wrap (sumR xa + sumR xb) = sumR xa + sumR xb := IntWalk.i64_in _ (by omega)
            replace e1 := Lib.hid e1
            replace k1 := Lib.hid k1
            replace e2 := Lib.hid e2
            replace k2 := Lib.hid k2
            replace e3 := Lib.hid e3
            replace k3 := Lib.hid k3
            replace es := Lib.hid es
            replace ha := Lib.hid ha
            replace hb := Lib.hid hb
            replace hc := Lib.hid hc
            clear ej
            have hxl : (xa ++ xb).length ≤ 100 := by rw [List.length_append]; omega
            generalize xa ++ xb = xc at *
            have hq9 := iRunCode_any 0 w16.heap.size Aa ca xa 0 w16.heap.size Ar cr (rs) w16 (by omega) h_a.out (Nat.le_refl _) (by rw [hRL.out]; omega) h_r.out (Nat.le_refl _)
            rw [e1.out] at hq9
            rw [k1.out] at hq9
            rw [hRL.out] at hq9
            have H := Lib.hid hq9
            clear hq9
            go_wp2_with (fail)
            refine (H.out).mono ?_
            rintro e w17 ⟨Ap, cp, rfl, op, hbe⟩
            replace h_a := Lib.hid (h_a.out.upD hbe)
            replace h_b := Lib.hid (h_b.out.upD hbe)
            replace h_c := Lib.hid (h_c.out.upD hbe)
            replace h_l := Lib.hid (h_l.out.upD hbe)
            replace h_r := Lib.hid (h_r.out.upD hbe)
            replace h_t := Lib.hid (h_t.out.upD hbe)
            replace hB := Lib.hid (hB.out.trans (hbe.mono hB.out.size))
            have h_p := Lib.hid ((OW.rs op).more (Nat.zero_le _) (Nat.le_refl _))
            clear hbe H
            clear op
            rw [runL_len, hRL.out]
            have hq9 := iRunCode_any 0 w17.heap.size Ab cb xb 0 w17.heap.size Ap cp (runL xa rs) w17 (by omega) h_b.out (Nat.le_refl _) (by rw [runL_len, hRL.out]; omega) h_p.out (Nat.le_refl _)
            rw [e2.out] at hq9
            rw [k2.out] at hq9
            rw [show (runL xa rs).length = 6 by rw [runL_len, hRL.out]] at hq9
            have H := Lib.hid hq9
            clear hq9
            go_wp2_with (fail)
            refine (H.out).mono ?_
            rintro e w18 ⟨Aq, cq, rfl, oq, hbe⟩
            replace h_a := Lib.hid (h_a.out.upD hbe)
            replace h_b := Lib.hid (h_b.out.upD hbe)
            replace h_c := Lib.hid (h_c.out.upD hbe)
            replace h_l := Lib.hid (h_l.out.upD hbe)
            replace h_r := Lib.hid (h_r.out.upD hbe)
            replace h_t := Lib.hid (h_t.out.upD hbe)
            replace h_p := Lib.hid (h_p.out.upD hbe)
            replace hB := Lib.hid (hB.out.trans (hbe.mono hB.out.size))
            have h_q := Lib.hid ((OW.rs oq).more (Nat.zero_le _) (Nat.le_refl _))
            clear hbe H
            clear oq
            rw [runL_len, hRL.out]
            have hq9 := iRunCode_any 0 w18.heap.size Ac cc xc 0 w18.heap.size Ar cr (rs) w18 (by omega) h_c.out (Nat.le_refl _) (by rw [hRL.out]; omega) h_r.out (Nat.le_refl _)
            rw [e3.out] at hq9
            rw [k3.out] at hq9
            rw [hRL.out] at hq9
            have H := Lib.hid hq9
            clear hq9
            go_wp2_with (fail)
            refine (H.out).mono ?_
            rintro e w19 ⟨Av, cv, rfl, ov, hbe⟩
            replace h_a := Lib.hid (h_a.out.upD hbe)
            replace h_b := Lib.hid (h_b.out.upD hbe)
            replace h_c := Lib.hid (h_c.out.upD hbe)
            replace h_l := Lib.hid (h_l.out.upD hbe)
            replace h_r := Lib.hid (h_r.out.upD hbe)
            replace h_t := Lib.hid (h_t.out.upD hbe)
            replace h_p := Lib.hid (h_p.out.upD hbe)
            replace h_q := Lib.hid (h_q.out.upD hbe)
            replace hB := Lib.hid (hB.out.trans (hbe.mono hB.out.size))
            have h_v := Lib.hid ((OW.rs ov).more (Nat.zero_le _) (Nat.le_refl _))
            clear hbe H
            clear ov
            rw [runL_len, hRL.out]
            have hq9 := iCodeCost_any 0 w19.heap.size Aa ca xa w19 (by omega) h_a.out (Nat.le_refl _)
            rw [ha.out] at hq9
            have H := Lib.hid hq9
            clear hq9
            go_wp2_with (fail)
            refine (H.out).mono ?_
            rintro e w20 ⟨rfl, hbe⟩
            replace h_a := Lib.hid (h_a.out.upD hbe)
            replace h_b := Lib.hid (h_b.out.upD hbe)
            replace h_c := Lib.hid (h_c.out.upD hbe)
            replace h_l := Lib.hid (h_l.out.upD hbe)
            replace h_r := Lib.hid (h_r.out.upD hbe)
            replace h_t := Lib.hid (h_t.out.upD hbe)
            replace h_p := Lib.hid (h_p.out.upD hbe)
            replace h_q := Lib.hid (h_q.out.upD hbe)
            replace h_v := Lib.hid (h_v.out.upD hbe)
            replace hB := Lib.hid (hB.out.trans (hbe.mono hB.out.size))
            clear hbe H
            have hq9 := iCodeCost_any 0 w20.heap.size Ab cb xb w20 (by omega) h_b.out (Nat.le_refl _)
            rw [hb.out] at hq9
            have H := Lib.hid hq9
            clear hq9
            go_wp2_with (fail)
            refine (H.out).mono ?_
            rintro e w21 ⟨rfl, hbe⟩
            replace h_a := Lib.hid (h_a.out.upD hbe)
            replace h_b := Lib.hid (h_b.out.upD hbe)
            replace h_c := Lib.hid (h_c.out.upD hbe)
            replace h_l := Lib.hid (h_l.out.upD hbe)
            replace h_r := Lib.hid (h_r.out.upD hbe)
            replace h_t := Lib.hid (h_t.out.upD hbe)
            replace h_p := Lib.hid (h_p.out.upD hbe)
            replace h_q := Lib.hid (h_q.out.upD hbe)
            replace h_v := Lib.hid (h_v.out.upD hbe)
            replace hB := Lib.hid (hB.out.trans (hbe.mono hB.out.size))
            clear hbe H
            have hq9 := iCodeCost_any 0 w21.heap.size Ac cc xc w21 (by omega) h_c.out (Nat.le_refl _)
            rw [hc.out] at hq9
            have H := Lib.hid hq9
            clear hq9
            go_wp2_with (fail)
            refine (H.out).mono ?_
            rintro e w22 ⟨rfl, hbe⟩
            replace h_a := Lib.hid (h_a.out.upD hbe)
            replace h_b := Lib.hid (h_b.out.upD hbe)
            replace h_c := Lib.hid (h_c.out.upD hbe)
            replace h_l := Lib.hid (h_l.out.upD hbe)
            replace h_r := Lib.hid (h_r.out.upD hbe)
            replace h_t := Lib.hid (h_t.out.upD hbe)
            replace h_p := Lib.hid (h_p.out.upD hbe)
            replace h_q := Lib.hid (h_q.out.upD hbe)
            replace h_v := Lib.hid (h_v.out.upD hbe)
            replace hB := Lib.hid (hB.out.trans (hbe.mono hB.out.size))
            clear hbe H
            rw [es.out]
            have H := Lib.hid (pSame_eq 0 w22.heap.size 0 w22.heap.size Aq Av 6 6 cq cv (runL xc rs) w22 (by rw [runL_len, hRL.out]) (by rw [runL_len, hRL.out]) (by rw [runL_len, hRL.out]; omega) h_q.out h_v.out)
            go_wp2_with (fail)
            refine (H.out).mono ?_
            rintro e w23 ⟨rfl, n, hn⟩
            have hbe := yes_below hn
            clear hn n
            replace h_a := Lib.hid (h_a.out.upD hbe)
            replace h_b := Lib.hid (h_b.out.upD hbe)
            replace h_c := Lib.hid (h_c.out.upD hbe)
            replace h_l := Lib.hid (h_l.out.upD hbe)
            replace h_r := Lib.hid (h_r.out.upD hbe)
            replace h_t := Lib.hid (h_t.out.upD hbe)
            replace h_p := Lib.hid (h_p.out.upD hbe)
            replace h_q := Lib.hid (h_q.out.upD hbe)
            replace h_v := Lib.hid (h_v.out.upD hbe)
            replace hB := Lib.hid (hB.out.trans (hbe.mono hB.out.size))
            clear hbe H
            have hq9 := iIsCode_any 0 w23.heap.size Ac cc xc w23 (by omega) h_c.out (Nat.le_refl _)
            rw [hc.out] at hq9
            have H := Lib.hid hq9
            clear hq9
            go_wp2_with (fail)
            refine (H.out).mono ?_
            rintro e w24 ⟨rfl, hbe⟩
            replace h_a := Lib.hid (h_a.out.upD hbe)
            replace h_b := Lib.hid (h_b.out.upD hbe)
            replace h_c := Lib.hid (h_c.out.upD hbe)
            replace h_l := Lib.hid (h_l.out.upD hbe)
            replace h_r := Lib.hid (h_r.out.upD hbe)
            replace h_t := Lib.hid (h_t.out.upD hbe)
            replace h_p := Lib.hid (h_p.out.upD hbe)
            replace h_q := Lib.hid (h_q.out.upD hbe)
            replace h_v := Lib.hid (h_v.out.upD hbe)
            replace hB := Lib.hid (hB.out.trans (hbe.mono hB.out.size))
            clear hbe H
            go_wp2
            go_ret
            exact ⟨rfl, hB.out⟩
          · obtain ⟨e1, k1, e2, k2, e3, k3, es, ha, hb, hc, b1, b2, b3, b4⟩ := join_run hJ9.out hRG.out
            have ej := (joinOk_parts hJ9.out).2.2.2
            rw [ej] at h_c ⊢
            have hwc : IntKind.i64.wrap (sumR xa + sumR xb) = sumR xa + sumR xb := IntWalk.i64_in _ (by omega)
            replace e1 := Lib.hid e1
            replace k1 := Lib.hid k1
            replace e2 := Lib.hid e2
            replace k2 := Lib.hid k2
            replace e3 := Lib.hid e3
            replace k3 := Lib.hid k3
            replace es := Lib.hid es
            replace ha := Lib.hid ha
            replace hb := Lib.hid hb
            replace hc := Lib.hid hc
            clear ej
            have hxl : (xa ++ xb).length ≤ 100 := by rw [List.length_append]; omega
            generalize xa ++ xb = xc at *
            have hq9 := iRunCode_any 0 w16.heap.size Aa ca xa 0 w16.heap.size Ar cr (rs) w16 (by omega) h_a.out (Nat.le_refl _) (by rw [hRL.out]; omega) h_r.out (Nat.le_refl _)
            rw [e1.out] at hq9
            rw [k1.out] at hq9
            rw [hRL.out] at hq9
            have H := Lib.hid hq9
            clear hq9
            go_wp2_with (fail)
            refine (H.out).mono ?_
            rintro e w17 ⟨Ap, cp, rfl, op, hbe⟩
            replace h_a := Lib.hid (h_a.out.upD hbe)
            replace h_b := Lib.hid (h_b.out.upD hbe)
            replace h_c := Lib.hid (h_c.out.upD hbe)
            replace h_l := Lib.hid (h_l.out.upD hbe)
            replace h_r := Lib.hid (h_r.out.upD hbe)
            replace h_t := Lib.hid (h_t.out.upD hbe)
            replace hB := Lib.hid (hB.out.trans (hbe.mono hB.out.size))
            have h_p := Lib.hid ((OW.rs op).more (Nat.zero_le _) (Nat.le_refl _))
            clear hbe H
            clear op
            rw [runL_len, hRL.out]
            have hq9 := iRunCode_any 0 w17.heap.size Ab cb xb 0 w17.heap.size Ap cp (runL xa rs) w17 (by omega) h_b.out (Nat.le_refl _) (by rw [runL_len, hRL.out]; omega) h_p.out (Nat.le_refl _)
            rw [e2.out] at hq9
            rw [k2.out] at hq9
            rw [show (runL xa rs).length = 6 by rw [runL_len, hRL.out]] at hq9
            have H := Lib.hid hq9
            clear hq9
            go_wp2_with (fail)
            refine (H.out).mono ?_
            rintro e w18 ⟨Aq, cq, rfl, oq, hbe⟩
            replace h_a := Lib.hid (h_a.out.upD hbe)
            replace h_b := Lib.hid (h_b.out.upD hbe)
            replace h_c := Lib.hid (h_c.out.upD hbe)
            replace h_l := Lib.hid (h_l.out.upD hbe)
            replace h_r := Lib.hid (h_r.out.upD hbe)
            replace h_t := Lib.hid (h_t.out.upD hbe)
            replace h_p := Lib.hid (h_p.out.upD hbe)
            replace hB := Lib.hid (hB.out.trans (hbe.mono hB.out.size))
            have h_q := Lib.hid ((OW.rs oq).more (Nat.zero_le _) (Nat.le_refl _))
            clear hbe H
            clear oq
            rw [runL_len, hRL.out]
            have hq9 := iRunCode_any 0 w18.heap.size Ac cc xc 0 w18.heap.size Ar cr (rs) w18 (by omega) h_c.out (Nat.le_refl _) (by rw [hRL.out]; omega) h_r.out (Nat.le_refl _)
            rw [e3.out] at hq9
            rw [k3.out] at hq9
            rw [hRL.out] at hq9
            have H := Lib.hid hq9
            clear hq9
            go_wp2_with (fail)
            refine (H.out).mono ?_
            rintro e w19 ⟨Av, cv, rfl, ov, hbe⟩
            replace h_a := Lib.hid (h_a.out.upD hbe)
            replace h_b := Lib.hid (h_b.out.upD hbe)
            replace h_c := Lib.hid (h_c.out.upD hbe)
            replace h_l := Lib.hid (h_l.out.upD hbe)
            replace h_r := Lib.hid (h_r.out.upD hbe)
            replace h_t := Lib.hid (h_t.out.upD hbe)
            replace h_p := Lib.hid (h_p.out.upD hbe)
            replace h_q := Lib.hid (h_q.out.upD hbe)
            replace hB := Lib.hid (hB.out.trans (hbe.mono hB.out.size))
            have h_v := Lib.hid ((OW.rs ov).more (Nat.zero_le _) (Nat.le_refl _))
            clear hbe H
            clear ov
            rw [runL_len, hRL.out]
            have hq9 := iCodeCost_any 0 w19.heap.size Aa ca xa w19 (by omega) h_a.out (Nat.le_refl _)
            rw [ha.out] at hq9
            have H := Lib.hid hq9
            clear hq9
            go_wp2_with (fail)
            refine (H.out).mono ?_
            rintro e w20 ⟨rfl, hbe⟩
            replace h_a := Lib.hid (h_a.out.upD hbe)
            replace h_b := Lib.hid (h_b.out.upD hbe)
            replace h_c := Lib.hid (h_c.out.upD hbe)
            replace h_l := Lib.hid (h_l.out.upD hbe)
            replace h_r := Lib.hid (h_r.out.upD hbe)
            replace h_t := Lib.hid (h_t.out.upD hbe)
            replace h_p := Lib.hid (h_p.out.upD hbe)
            replace h_q := Lib.hid (h_q.out.upD hbe)
            replace h_v := Lib.hid (h_v.out.upD hbe)
            replace hB := Lib.hid (hB.out.trans (hbe.mono hB.out.size))
            clear hbe H
            have hq9 := iCodeCost_any 0 w20.heap.size Ab cb xb w20 (by omega) h_b.out (Nat.le_refl _)
            rw [hb.out] at hq9
            have H := Lib.hid hq9
            clear hq9
            go_wp2_with (fail)
            refine (H.out).mono ?_
            rintro e w21 ⟨rfl, hbe⟩
            replace h_a := Lib.hid (h_a.out.upD hbe)
            replace h_b := Lib.hid (h_b.out.upD hbe)
            replace h_c := Lib.hid (h_c.out.upD hbe)
            replace h_l := Lib.hid (h_l.out.upD hbe)
            replace h_r := Lib.hid (h_r.out.upD hbe)
            replace h_t := Lib.hid (h_t.out.upD hbe)
            replace h_p := Lib.hid (h_p.out.upD hbe)
            replace h_q := Lib.hid (h_q.out.upD hbe)
            replace h_v := Lib.hid (h_v.out.upD hbe)
            replace hB := Lib.hid (hB.out.trans (hbe.mono hB.out.size))
            clear hbe H
            have hq9 := iCodeCost_any 0 w21.heap.size Ac cc xc w21 (by omega) h_c.out (Nat.le_refl _)
            rw [hc.out] at hq9
            have H := Lib.hid hq9
            clear hq9
            go_wp2_with (fail)
            refine (H.out).mono ?_
            rintro e w22 ⟨rfl, hbe⟩
            replace h_a := Lib.hid (h_a.out.upD hbe)
            replace h_b := Lib.hid (h_b.out.upD hbe)
            replace h_c := Lib.hid (h_c.out.upD hbe)
            replace h_l := Lib.hid (h_l.out.upD hbe)
            replace h_r := Lib.hid (h_r.out.upD hbe)
            replace h_t := Lib.hid (h_t.out.upD hbe)
            replace h_p := Lib.hid (h_p.out.upD hbe)
            replace h_q := Lib.hid (h_q.out.upD hbe)
            replace h_v := Lib.hid (h_v.out.upD hbe)
            replace hB := Lib.hid (hB.out.trans (hbe.mono hB.out.size))
            clear hbe H
            rw [es.out]
            have H := Lib.hid (pSame_eq 0 w22.heap.size 0 w22.heap.size Aq Av 6 6 cq cv (runL xc rs) w22 (by rw [runL_len, hRL.out]) (by rw [runL_len, hRL.out]) (by rw [runL_len, hRL.out]; omega) h_q.out h_v.out)
            go_wp2_with (fail)
            refine (H.out).mono ?_
            rintro e w23 ⟨rfl, n, hn⟩
            have hbe := yes_below hn
            clear hn n
            replace h_a := Lib.hid (h_a.out.upD hbe)
            replace h_b := Lib.hid (h_b.out.upD hbe)
            replace h_c := Lib.hid (h_c.out.upD hbe)
            replace h_l := Lib.hid (h_l.out.upD hbe)
            replace h_r := Lib.hid (h_r.out.upD hbe)
            replace h_t := Lib.hid (h_t.out.upD hbe)
            replace h_p := Lib.hid (h_p.out.upD hbe)
            replace h_q := Lib.hid (h_q.out.upD hbe)
            replace h_v := Lib.hid (h_v.out.upD hbe)
            replace hB := Lib.hid (hB.out.trans (hbe.mono hB.out.size))
            clear hbe H
            have hq9 := iIsCode_any 0 w23.heap.size Ac cc xc w23 (by omega) h_c.out (Nat.le_refl _)
            rw [hc.out] at hq9
            have H := Lib.hid hq9
            clear hq9
            go_wp2_with (fail)
            refine (H.out).mono ?_
            rintro e w24 ⟨rfl, hbe⟩
            replace h_a := Lib.hid (h_a.out.upD hbe)
            replace h_b := Lib.hid (h_b.out.upD hbe)
            replace h_c := Lib.hid (h_c.out.upD hbe)
            replace h_l := Lib.hid (h_l.out.upD hbe)
            replace h_r := Lib.hid (h_r.out.upD hbe)
            replace h_t := Lib.hid (h_t.out.upD hbe)
            replace h_p := Lib.hid (h_p.out.upD hbe)
            replace h_q := Lib.hid (h_q.out.upD hbe)
            replace h_v := Lib.hid (h_v.out.upD hbe)
            replace hB := Lib.hid (hB.out.trans (hbe.mono hB.out.size))
            clear hbe H
            go_wp2
            go_ret
            exact ⟨rfl, hB.out⟩
end Go.Proofs.Ytmhdijklindipaa

/- Arguments of the types []laws.Instr, laws.Instr and []int opened. -/
namespace Go.Proofs.Ytmhdijklindipaa
open Go.ChangeShapes Go.WideShapes Go.ChangeAt Go.RowKit Go.Deep
open Go.ChangeMaps (open_string shut_string)
set_option linter.unusedVariables false

theorem cellsStr : Try.prog.cellsOf 9 = 1 := by kernel_rfl
theorem cellsInt : Try.prog.cellsOf 3 = 1 := by kernel_rfl

theorem cell_lt_heap {w : World} {a : Addr} {v : Value} (h : w.cell? a = some v) : a.block < w.heap.size := by
  rcases Nat.lt_or_ge a.block w.heap.size with hlt | hge
  · exact hlt
  · unfold World.cell? at h; rw [Array.getElem?_eq_none hge] at h; simp at h

set_option maxRecDepth 100000 in
theorem ints_of_trod {H : Type} {enc : TypeId × Value → H} {w : World} {spare : Nat → Bool} {held : Bool} {A : Option Addr} {len cap : Nat} {d : DataW H} {p : List MemPlace}
    (h : DataW.Trod enc Try.prog w 0 spare held 27 (.slice A len cap) d p) :
    ∃ xs : List Int, xs.length = len ∧ IS w 0 w.heap.size A xs ∧ len ≤ 9223372036854775807 := by
  obtain ⟨fuel, hf⟩ := h
  rcases open_slice Try.underlying27 hf with ⟨hcs, _⟩ | ⟨a, l, c, m, n, D, Pl, hcs, _, hl, hm, hmm, _, hi⟩
  · simp [Value.cells] at hcs
    obtain ⟨rfl, rfl, rfl⟩ := hcs
    exact ⟨[], rfl, fun h => absurd h (by simp), by omega⟩
  · simp [Value.cells] at hcs
    obtain ⟨rfl, rfl, rfl⟩ := hcs
    have hlm : len ≤ m := by rw [hmm]; split <;> omega
    have hex : ∀ i, i < len → ∃ x : Int, w.cell? (a.add i) = some (.int .i64 x) := by
      intro i hil
      obtain ⟨cs', hc, ht⟩ := hi i (by omega)
      rw [cellsInt, Nat.mul_one] at hc
      obtain ⟨x, hx, _, _⟩ := DataW.trod_int Try.underlying3 ht
      obtain ⟨_, _, hat⟩ := World.cells?_some hc
      have := hat 0 (by omega)
      rw [add_add, hx] at this
      exact ⟨x, by simpa using this⟩
    obtain ⟨f, hf2⟩ := Classical.axiomOfChoice (fun i : {i // i < len} => hex i.1 i.2)
    have hget : ∀ i (h : i < (List.ofFn fun i : Fin len => f ⟨i.1, i.2⟩).length), (List.ofFn fun i : Fin len => f ⟨i.1, i.2⟩)[i] = f ⟨i, by simpa using h⟩ := fun i h => by simp
    refine ⟨List.ofFn fun i : Fin len => f ⟨i.1, i.2⟩, by simp, ?_, by unfold maxLen at hm; omega⟩
    intro hpos
    have hpos' : 0 < len := by simpa using hpos
    have h0 := hf2 ⟨0, hpos'⟩
    obtain ⟨b, o, spot⟩ := a
    have hspot : spot = none := by have := World.cell?_spot h0; simpa [Addr.add] using this
    subst hspot
    have hadd : ∀ k, (⟨b, o, none⟩ : Addr).add k = ⟨b, o + k, none⟩ := fun k => by simp [Addr.add]
    refine ⟨b, o, rfl, ⟨Nat.zero_le _, ?_⟩, fun i hi => ?_⟩
    · rw [hadd] at h0
      exact cell_lt_heap h0
    · have hi' : i < len := by simpa using hi
      rw [hget i hi]
      have := hf2 ⟨i, hi'⟩
      simp only [hadd] at this
      exact this
end Go.Proofs.Ytmhdijklindipaa

/- A []byte argument opened. -/
namespace Go.Proofs.Ytmhdijklindipaa
open Go.ChangeShapes Go.WideShapes Go.ChangeAt Go.RowKit Go.Deep
set_option linter.unusedVariables false
theorem cellsByte : Try.prog.cellsOf 5 = 1 := by kernel_rfl
theorem bytes_of_trod {H : Type} {enc : TypeId × Value → H} {w : World} {spare : Nat → Bool} {held : Bool} {A : Option Addr} {len cap : Nat} {d : DataW H} {p : List MemPlace}
    (h : DataW.Trod enc Try.prog w 0 spare held 22 (.slice A len cap) d p) :
    ∃ xs : List Int, xs.length = len ∧ BY w w.heap.size A xs ∧ (∀ x ∈ xs, 0 ≤ x ∧ x ≤ 255) ∧ len ≤ 9223372036854775807 := by
  obtain ⟨fuel, hf⟩ := h
  rcases open_slice Try.underlying22 hf with ⟨hcs, _⟩ | ⟨a, l, c, m, n, D, Pl, hcs, _, hl, hm, hmm, _, hi⟩
  · simp [Value.cells] at hcs
    obtain ⟨rfl, rfl, rfl⟩ := hcs
    exact ⟨[], rfl, fun h => absurd h (by simp), fun x hx => by simp at hx, by omega⟩
  · simp [Value.cells] at hcs
    obtain ⟨rfl, rfl, rfl⟩ := hcs
    have hlm : len ≤ m := by rw [hmm]; split <;> omega
    have hex : ∀ i, i < len → ∃ x : Int, w.cell? (a.add i) = some (.int .u8 x) ∧ 0 ≤ x ∧ x ≤ 255 := by
      intro i hil
      obtain ⟨cs', hc, ht⟩ := hi i (by omega)
      rw [cellsByte, Nat.mul_one] at hc
      obtain ⟨x, hx, hb, hz⟩ := DataW.trod_int Try.underlying5 ht
      obtain ⟨_, _, hat⟩ := World.cells?_some hc
      have := hat 0 (by omega)
      rw [add_add, hx] at this
      refine ⟨x, by simpa using this, ?_⟩
      have hz2 : (decide (IntKind.u8.min ≤ x) && decide (x ≤ IntKind.u8.max)) = true := hz
      rw [show IntKind.u8.min = 0 from rfl, show IntKind.u8.max = 255 from rfl, Bool.and_eq_true, decide_eq_true_iff, decide_eq_true_iff] at hz2
      exact hz2
    obtain ⟨f, hf2⟩ := Classical.axiomOfChoice (fun i : {i // i < len} => hex i.1 i.2)
    have hget : ∀ i (h : i < (List.ofFn fun i : Fin len => f ⟨i.1, i.2⟩).length), (List.ofFn fun i : Fin len => f ⟨i.1, i.2⟩)[i] = f ⟨i, by simpa using h⟩ := fun i h => by simp
    refine ⟨List.ofFn fun i : Fin len => f ⟨i.1, i.2⟩, by simp, ?_, ?_, by unfold maxLen at hm; omega⟩
    · intro hpos
      have hpos' : 0 < len := by simpa using hpos
      have h0 := (hf2 ⟨0, hpos'⟩).1
      obtain ⟨b, o, spot⟩ := a
      have hspot : spot = none := by have := World.cell?_spot h0; simpa [Addr.add] using this
      subst hspot
      have hadd : ∀ k, (⟨b, o, none⟩ : Addr).add k = ⟨b, o + k, none⟩ := fun k => by simp [Addr.add]
      refine ⟨b, o, rfl, ?_, fun i hi => ?_⟩
      · rw [hadd] at h0
        exact cell_lt_heap h0
      · have hi' : i < len := by simpa using hi
        rw [hget i hi]
        have := (hf2 ⟨i, hi'⟩).1
        simp only [hadd] at this
        exact this
    · intro x hx
      rw [List.mem_ofFn] at hx
      obtain ⟨i, rfl⟩ := hx
      exact (hf2 ⟨i.1, i.2⟩).2
end Go.Proofs.Ytmhdijklindipaa
