import Derived.Test.YtjnbgnnlpeoaoaaJA
import Derived.Outline
namespace Go.Proofs.Ytjnbgnnlpeoaoaa
open Go.RowKit
set_option linter.unusedVariables false
set_option maxRecDepth 100000

set_option maxHeartbeats 4000000 in
/-- slices.Concat of two lists of code. -/
theorem ConcatC_any (L0 B0 L1 B1 g : Nat) (A0 A1 : Option Addr) (c0 c1 : Nat) (xs ys : List In) (w : World) (hx : RS In.enc 5 w L0 B0 A0 xs) (hy : RS In.enc 5 w L1 B1 A1 ys) (hB0 : B0 ≤ w.heap.size) (hB1 : B1 ≤ w.heap.size)
    (k0 : w.cell? ⟨g, 0, none⟩ = some (.slice A0 xs.length c0)) (k1 : w.cell? ⟨g, 1, none⟩ = some (.slice A1 ys.length c1)) (hg : g < w.heap.size) (hl0 : xs.length ≤ 1048576) (hl1 : ys.length ≤ 1048576) :
    Calls Try.prog 114 #[.slice (some ⟨g, 0, none⟩) 2 2] w (FreshInstr w (xs ++ ys)) := by
  obtain ⟨i0, hi, hz0, hz1, hz2⟩ := info_parts Try.infoInstr
  have hX := Lib.hid hx
  have hY := Lib.hid hy
  have K0 := Lib.hid k0
  have K1 := Lib.hid k1
  have hlen : Hid ((xs ++ ys).length = xs.length + ys.length) := List.length_append
  have hn0 : ¬ ((xs.length : Int) < 0) := by omega
  have hn1 : ¬ ((xs.length : Int) + ys.length < 0) := by omega
  have H0 := Lib.hid hB0
  have H1 := Lib.hid hB1
  have e1 : xs.length + ys.length ≤ 2097152 := by omega
  have hw1 : IntKind.i64.wrap ((xs.length : Int) + ys.length) = xs.length + ys.length := IntWalk.i64_in _ (by omega)
  clear hx hy hB0 hB1
  go_enter Try.func114, Try.ntmps114
  go_wp2_with (fail)
  refine wp_loop_rounds 3 ?_
  rw [rounds_succ]
  go_wp2
  rw [rounds_succ]
  go_wp2
  rw [rounds_succ]
  go_wp2_with (fail)
  clear k0 k1
  refine (GrowC_any _ (xs.length + ys.length) _ (by omega) e1).mono ?_
  rintro e w1 ⟨A, c, rfl, ho, hb⟩
  have hz := hb.size
  have k0 := (hb.cell (p := ⟨g, 0, none⟩) hg).trans K0.out
  have k1 := (hb.cell (p := ⟨g, 1, none⟩) hg).trans K1.out
  have hO := Lib.hid ho
  have hBl := Lib.hid hb
  go_wp2_with (fail)
  refine wp_loop_rounds 3 ?_
  rw [rounds_succ]
  go_wp2_with (at_builtin; refine wpList_append_src rfl (.tmp 31) (.tmp 32) 32 rfl w.heap.size 26 i0 _ 5 48 Try.underlying32 hi hz0 hz1 hz2 rfl (by decide) _ 0 [] rfl hO.out.1 A0 xs.length c0 (xs.flatMap In.enc) rfl (kflat_len In.hk xs) ((hX.out.below hBl.out H0.out).news In.hk) (five_ones xs) (by unfold maxLen; omega) (by omega) hz ?_; intro v2 w2 hown2 hgrow2 _)
  simp only [Nat.zero_add, List.nil_append] at hown2
  have hsz1 := hgrow2.size
  have hb2 := Lib.hid (hBl.out.grown hgrow2 hz (fun k hk => (ho.1.lt k hk).1))
  have hz2' := hb2.out.size
  have hO2 := Lib.hid hown2
  have k0' := (hb2.out.cell (p := ⟨g, 0, none⟩) hg).trans K0.out
  have k1' := (hb2.out.cell (p := ⟨g, 1, none⟩) hg).trans K1.out
  clear k0 k1 hown2 hgrow2
  rw [rounds_succ]
  go_wp2_with (at_builtin; refine wpList_append_src rfl (.tmp 31) (.tmp 32) 32 rfl w.heap.size 26 i0 _ 5 48 Try.underlying32 hi hz0 hz1 hz2 rfl (by decide) _ xs.length _ rfl hO2.out A1 ys.length c1 (ys.flatMap In.enc) rfl (kflat_len In.hk ys) ((hY.out.below hb2.out H1.out).news In.hk) (five_ones ys) (by unfold maxLen; omega) (by omega) hz2' ?_; intro v3 w3 hown3 hgrow3 _)
  trace "here"
  rw [← List.flatMap_append] at hown3
  have hO3 : Hid (OK In.enc 5 26 w3 w.heap.size w3.heap.size v3 (xs ++ ys)) := OK.ofRow hown3 hlen.out.symm
  have hb3 := Lib.hid (hb2.out.grown hgrow3 hz2' (fun k hk => (hO2.out.lt k hk).1))
  clear hown3 hgrow3
  rw [rounds_succ]
  go_wp2
  obtain ⟨A', c', rfl, _⟩ := OK.form In.hk hO3.out
  go_ret
  exact ⟨_, _, rfl, hO3.out, hb3.out⟩
end Go.Proofs.Ytjnbgnnlpeoaoaa
