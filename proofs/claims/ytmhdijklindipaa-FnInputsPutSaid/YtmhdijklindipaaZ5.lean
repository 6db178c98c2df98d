/- Texts of this proof, one behind the other: SB, SC, SD, HB, DR7, DR8. -/
import Derived.Test.YtmhdijklindipaaZ6
import Derived.Deep.RegionLaw
import Derived.WalkKit
import Derived.WalkSpells
import Derived.WalkLawsBesides
import Derived.Deep.RegionHeld3
import Derived.Lib.Hide
import Derived.Test.YtmhdijklindipaaZ9
import Derived.Test.YtmhdijklindipaaZ11
import Derived.Test.YtmhdijklindipaaKMInstr
import Derived.Laws.StructEq
import Derived.Test.YtmhdijklindipaaLI
import Derived.Test.YtmhdijklindipaaV
import Derived.Deep.QuietTactic
import Derived.BigQuiet
namespace Go.Proofs.Ytmhdijklindipaa
open Go.RowKit
set_option linter.unusedVariables false
set_option maxRecDepth 100000

theorem l1In_lit (n lo hi : Int) (r : Bool) (h : inR n lo hi = r) (w : World) : Calls Try.prog 169 #[.int .i64 n, .int .i64 lo, .int .i64 hi] w fun e w' => e = .returned (.bool r) ∧ w = w' := by
  subst h; exact l1In_r n lo hi w
theorem OK.some' {w : World} {lo hi : Nat} {v : Value} {xs : List In} {t : TypeId} (h : OK In.enc 5 t w lo hi v xs) (h0 : 0 < xs.length) : ∃ g cap rest, v = .slice (some ⟨g, 0, none⟩) xs.length cap ∧ lo ≤ g ∧ g < hi ∧ xs.length ≤ cap ∧ cap ≤ maxLen ∧ CB t w g (xs.flatMap In.enc ++ rest) ∧ (xs.flatMap In.enc ++ rest).length = cap * 5 := by
  rcases OK.open h with ⟨_, h1⟩ | ⟨g, cap, h1, h2, h3, h4, h5, rest, h6, h7⟩
  · omega
  · exact ⟨g, cap, rest, h1, h2, h3, h4, h5, h6, h7⟩
theorem code_two {w : World} {L B b o n : Nat} {es : List In} {x y : In} (h : RS In.enc 5 w L B (some ⟨b, o, none⟩) es) (hn : n + 1 < es.length) (hx : es[n] = x) (hy : es[n + 1] = y) :
    (w.cell? ⟨b, o + n * 5, none⟩ = some (.string x.op) ∧ w.cell? ⟨b, o + n * 5 + 1, none⟩ = some (.int .i64 x.d) ∧ w.cell? ⟨b, o + n * 5 + 2, none⟩ = some (.int .i64 x.a) ∧ w.cell? ⟨b, o + n * 5 + 3, none⟩ = some (.int .i64 x.b) ∧ w.cell? ⟨b, o + n * 5 + 4, none⟩ = some (.int .i64 x.m)) ∧
    (w.cell? ⟨b, o + (n + 1) * 5, none⟩ = some (.string y.op) ∧ w.cell? ⟨b, o + (n + 1) * 5 + 1, none⟩ = some (.int .i64 y.d) ∧ w.cell? ⟨b, o + (n + 1) * 5 + 2, none⟩ = some (.int .i64 y.a) ∧ w.cell? ⟨b, o + (n + 1) * 5 + 3, none⟩ = some (.int .i64 y.b) ∧ w.cell? ⟨b, o + (n + 1) * 5 + 4, none⟩ = some (.int .i64 y.m)) := by
  subst hx; subst hy
  obtain ⟨b', o', e, _, hc⟩ := In.cells h (by omega)
  injection e with e; injection e with e1 e2 _; subst e1; subst e2
  exact ⟨hc n (by omega), hc (n + 1) hn⟩
set_option maxHeartbeats 16000000 in
theorem sSwap_any (L B : Nat) (A : Option Addr) (c : Nat) (es : List In) (i : Int) (w : World) (hl : es.length ≤ 1048576) (hes : RS In.enc 5 w L B A es) (hB : B ≤ w.heap.size) :
    Calls Try.prog 56 #[.slice A es.length c, .int .i64 i] w (ResSwapNeighbours (swapR es i) (swOk es i) w) := by
  have H := Lib.hid (cdCode_any L B A c es w.drew hl (hes.below (Below.refl w.heap.size w).drew hB) hB)
  have hE := Lib.hid hes
  have hBB := Lib.hid hB
  have hB0 := Lib.hid ((Below.refl w.heap.size w).drew)
  clear hes hB
  cases hg : okCode es
  · have hK : Hid (swOk es i = false) := by simp [Hid, swOk, hg]
    have hR := Lib.hid (swapR_no hK.out)
    rw [hg] at H
    clear hg
    go_enter Try.func56, Try.ntmps56
    go_wp2_with (fail)
    refine wp_region_any (by kernel_rfl) ?_
    try (change wpAny _ _ _ _ _ _ _ (World.drew _))
    refine wpAny_take (i := 0) (v := ?_) rfl (by kernel_rfl) (by kernel_rfl) (by kernel_rfl) (fun _ _ _ h => h) (Or.inl ⟨by rfl, ?_⟩) ?_
    rotate_left 1
    · (intro w; go_simp; try with_reducible rfl)
    try simp only [Act.put, List.setIfInBounds_toArray, List.set_cons_zero, List.set_cons_succ, List.getElem_toArray, List.getElem_cons_zero, List.getElem_cons_succ]
    refine wpAny_ready (rs := [1]) (by kernel_rfl) (by simp) ?_
    refine AllReady.cons rfl (fun K hK => ?_) (AllReady.nil)
    try simp only [List.setIfInBounds_toArray, List.set_cons_zero, List.set_cons_succ, List.getElem_toArray, List.getElem_cons_zero, List.getElem_cons_succ]
    (go_simp; go_at_call 136; (with_reducible refine H.out.mono ?_); rintro e w2 ⟨rfl, hb2⟩)
    try go_simp
    try (refine hK _ _ ?_; clear hK K)
    refine wpAny_take (i := 2) (v := ?_) rfl (by kernel_rfl) (by kernel_rfl) (by kernel_rfl) (fun _ _ _ h => h) (Or.inl ⟨by rfl, ?_⟩) ?_
    rotate_left 1
    · (intro w; go_simp; try with_reducible rfl)
    try simp only [Act.put, List.setIfInBounds_toArray, List.set_cons_zero, List.set_cons_succ, List.getElem_toArray, List.getElem_cons_zero, List.getElem_cons_succ]
    refine wpAny_take (i := 3) (v := ?_) rfl (by kernel_rfl) (by kernel_rfl) (by kernel_rfl) (fun _ _ _ h => h) (Or.inl ⟨by rfl, ?_⟩) ?_
    rotate_left 1
    · (intro w; go_simp; try with_reducible rfl)
    try simp only [Act.put, List.setIfInBounds_toArray, List.set_cons_zero, List.set_cons_succ, List.getElem_toArray, List.getElem_cons_zero, List.getElem_cons_succ]
    refine wpAny_take (i := 4) (v := undef) rfl (by kernel_rfl) (by kernel_rfl) (by kernel_rfl) (fun _ _ _ h => h) (Or.inr ⟨by rfl, rfl⟩) ?_
    try simp only [Act.put, List.setIfInBounds_toArray, List.set_cons_zero, List.set_cons_succ, List.getElem_toArray, List.getElem_cons_zero, List.getElem_cons_succ]
    refine wpAny_take (i := 5) (v := undef) rfl (by kernel_rfl) (by kernel_rfl) (by kernel_rfl) (fun _ _ _ h => h) (Or.inr ⟨by rfl, rfl⟩) ?_
    try simp only [Act.put, List.setIfInBounds_toArray, List.set_cons_zero, List.set_cons_succ, List.getElem_toArray, List.getElem_cons_zero, List.getElem_cons_succ]
    refine wpAny_take (i := 6) (v := undef) rfl (by kernel_rfl) (by kernel_rfl) (by kernel_rfl) (fun _ _ _ h => h) (Or.inr ⟨by rfl, rfl⟩) ?_
    try simp only [Act.put, List.setIfInBounds_toArray, List.set_cons_zero, List.set_cons_succ, List.getElem_toArray, List.getElem_cons_zero, List.getElem_cons_succ]
    refine wpAny_take (i := 7) (v := undef) rfl (by kernel_rfl) (by kernel_rfl) (by kernel_rfl) (fun _ _ _ h => h) (Or.inr ⟨by rfl, rfl⟩) ?_
    try simp only [Act.put, List.setIfInBounds_toArray, List.set_cons_zero, List.set_cons_succ, List.getElem_toArray, List.getElem_cons_zero, List.getElem_cons_succ]
    refine wpAny_take (i := 8) (v := undef) rfl (by kernel_rfl) (by kernel_rfl) (by kernel_rfl) (fun _ _ _ h => h) (Or.inr ⟨by rfl, rfl⟩) ?_
    try simp only [Act.put, List.setIfInBounds_toArray, List.set_cons_zero, List.set_cons_succ, List.getElem_toArray, List.getElem_cons_zero, List.getElem_cons_succ]
    refine wpAny_take (i := 9) (v := undef) rfl (by kernel_rfl) (by kernel_rfl) (by kernel_rfl) (fun _ _ _ h => h) (Or.inr ⟨by rfl, rfl⟩) ?_
    try simp only [Act.put, List.setIfInBounds_toArray, List.set_cons_zero, List.set_cons_succ, List.getElem_toArray, List.getElem_cons_zero, List.getElem_cons_succ]
    refine wpAny_take (i := 10) (v := ?_) rfl (by kernel_rfl) (by kernel_rfl) (by kernel_rfl) (fun _ _ _ h => h) (Or.inl ⟨by rfl, ?_⟩) ?_
    rotate_left 1
    · (intro w; go_simp; try with_reducible rfl)
    try simp only [Act.put, List.setIfInBounds_toArray, List.set_cons_zero, List.set_cons_succ, List.getElem_toArray, List.getElem_cons_zero, List.getElem_cons_succ]
    refine wpAny_take (i := 11) (v := ?_) rfl (by kernel_rfl) (by kernel_rfl) (by kernel_rfl) (fun _ _ _ h => h) (Or.inl ⟨by rfl, ?_⟩) ?_
    rotate_left 1
    · (intro w; go_simp; try with_reducible rfl)
    try simp only [Act.put, List.setIfInBounds_toArray, List.set_cons_zero, List.set_cons_succ, List.getElem_toArray, List.getElem_cons_zero, List.getElem_cons_succ]
    refine wpAny_take (i := 12) (v := undef) rfl (by kernel_rfl) (by kernel_rfl) (by kernel_rfl) (fun _ _ _ h => h) (Or.inr ⟨by rfl, rfl⟩) ?_
    try simp only [Act.put, List.setIfInBounds_toArray, List.set_cons_zero, List.set_cons_succ, List.getElem_toArray, List.getElem_cons_zero, List.getElem_cons_succ]
    refine wpAny_take (i := 13) (v := undef) rfl (by kernel_rfl) (by kernel_rfl) (by kernel_rfl) (fun _ _ _ h => h) (Or.inr ⟨by rfl, rfl⟩) ?_
    try simp only [Act.put, List.setIfInBounds_toArray, List.set_cons_zero, List.set_cons_succ, List.getElem_toArray, List.getElem_cons_zero, List.getElem_cons_succ]
    refine wpAny_take (i := 14) (v := undef) rfl (by kernel_rfl) (by kernel_rfl) (by kernel_rfl) (fun _ _ _ h => h) (Or.inr ⟨by rfl, rfl⟩) ?_
    try simp only [Act.put, List.setIfInBounds_toArray, List.set_cons_zero, List.set_cons_succ, List.getElem_toArray, List.getElem_cons_zero, List.getElem_cons_succ]
    refine wpAny_take (i := 15) (v := undef) rfl (by kernel_rfl) (by kernel_rfl) (by kernel_rfl) (fun _ _ _ h => h) (Or.inr ⟨by rfl, rfl⟩) ?_
    try simp only [Act.put, List.setIfInBounds_toArray, List.set_cons_zero, List.set_cons_succ, List.getElem_toArray, List.getElem_cons_zero, List.getElem_cons_succ]
    refine wpAny_take (i := 16) (v := undef) rfl (by kernel_rfl) (by kernel_rfl) (by kernel_rfl) (fun _ _ _ h => h) (Or.inr ⟨by rfl, rfl⟩) ?_
    try simp only [Act.put, List.setIfInBounds_toArray, List.set_cons_zero, List.set_cons_succ, List.getElem_toArray, List.getElem_cons_zero, List.getElem_cons_succ]
    refine wpAny_take (i := 17) (v := undef) rfl (by kernel_rfl) (by kernel_rfl) (by kernel_rfl) (fun _ _ _ h => h) (Or.inr ⟨by rfl, rfl⟩) ?_
    try simp only [Act.put, List.setIfInBounds_toArray, List.set_cons_zero, List.set_cons_succ, List.getElem_toArray, List.getElem_cons_zero, List.getElem_cons_succ]
    refine wpAny_take (i := 18) (v := undef) rfl (by kernel_rfl) (by kernel_rfl) (by kernel_rfl) (fun _ _ _ h => h) (Or.inr ⟨by rfl, rfl⟩) ?_
    try simp only [Act.put, List.setIfInBounds_toArray, List.set_cons_zero, List.set_cons_succ, List.getElem_toArray, List.getElem_cons_zero, List.getElem_cons_succ]
    refine wpAny_take (i := 19) (v := undef) rfl (by kernel_rfl) (by kernel_rfl) (by kernel_rfl) (fun _ _ _ h => h) (Or.inr ⟨by rfl, rfl⟩) ?_
    try simp only [Act.put, List.setIfInBounds_toArray, List.set_cons_zero, List.set_cons_succ, List.getElem_toArray, List.getElem_cons_zero, List.getElem_cons_succ]
    refine wpAny_take (i := 20) (v := undef) rfl (by kernel_rfl) (by kernel_rfl) (by kernel_rfl) (fun _ _ _ h => h) (Or.inr ⟨by rfl, rfl⟩) ?_
    try simp only [Act.put, List.setIfInBounds_toArray, List.set_cons_zero, List.set_cons_succ, List.getElem_toArray, List.getElem_cons_zero, List.getElem_cons_succ]
    refine wpAny_take (i := 21) (v := undef) rfl (by kernel_rfl) (by kernel_rfl) (by kernel_rfl) (fun _ _ _ h => h) (Or.inr ⟨by rfl, rfl⟩) ?_
    try simp only [Act.put, List.setIfInBounds_toArray, List.set_cons_zero, List.set_cons_succ, List.getElem_toArray, List.getElem_cons_zero, List.getElem_cons_succ]
    refine wpAny_take (i := 22) (v := undef) rfl (by kernel_rfl) (by kernel_rfl) (by kernel_rfl) (fun _ _ _ h => h) (Or.inr ⟨by rfl, rfl⟩) ?_
    try simp only [Act.put, List.setIfInBounds_toArray, List.set_cons_zero, List.set_cons_succ, List.getElem_toArray, List.getElem_cons_zero, List.getElem_cons_succ]
    refine wpAny_take (i := 23) (v := ?_) rfl (by kernel_rfl) (by kernel_rfl) (by kernel_rfl) (fun _ _ _ h => h) (Or.inl ⟨by rfl, ?_⟩) ?_
    rotate_left 1
    · (intro w; go_simp; try with_reducible rfl)
    try simp only [Act.put, List.setIfInBounds_toArray, List.set_cons_zero, List.set_cons_succ, List.getElem_toArray, List.getElem_cons_zero, List.getElem_cons_succ]
    refine wpAny_done (by kernel_rfl) ?_ _
    rotate_left 1
    all_goals
      go_wp2
      go_ret2
      rw [hR.out, hK.out]; exact ⟨none, 0, rfl, OK.nil _ _ _ _, hB0.out.trans hb2⟩
  have hG := Lib.hid hg
  have hlen := Lib.hid (okCode_len hg)
  have hall := Lib.hid (okCode_all hg)
  rw [hg] at H
  clear hg
  cases hr : inR i 0 ((es.length : Int) - 2)
  · have hK : Hid (swOk es i = false) := by simp [Hid, swOk, hr]
    have hR := Lib.hid (swapR_no hK.out)
    have hX := Lib.hid (l1In_lit _ _ _ _ hr)
    have hwr : IntKind.i64.wrap ((es.length : Int) - 2) = (es.length : Int) - 2 := IntWalk.i64_in _ (by omega)
    clear hr
    go_enter Try.func56, Try.ntmps56
    go_wp2_with (fail)
    refine wp_region_any (by kernel_rfl) ?_
    try (change wpAny _ _ _ _ _ _ _ (World.drew _))
    refine wpAny_take (i := 0) (v := ?_) rfl (by kernel_rfl) (by kernel_rfl) (by kernel_rfl) (fun _ _ _ h => h) (Or.inl ⟨by rfl, ?_⟩) ?_
    rotate_left 1
    · (intro w; go_simp; try with_reducible rfl)
    try simp only [Act.put, List.setIfInBounds_toArray, List.set_cons_zero, List.set_cons_succ, List.getElem_toArray, List.getElem_cons_zero, List.getElem_cons_succ]
    refine wpAny_ready (rs := [1]) (by kernel_rfl) (by simp) ?_
    refine AllReady.cons rfl (fun K hK => ?_) (AllReady.nil)
    try simp only [List.setIfInBounds_toArray, List.set_cons_zero, List.set_cons_succ, List.getElem_toArray, List.getElem_cons_zero, List.getElem_cons_succ]
    (first | (go_simp; go_at_call 136; (with_reducible refine H.out.mono ?_); rintro e w2 ⟨rfl, hb2⟩) | (go_simp; go_at_call 169; (with_reducible refine (hX.out _).mono ?_); rintro e w' ⟨rfl, rfl⟩))
    try go_simp
    try (refine hK _ _ ?_; clear hK K)
    refine wpAny_take (i := 2) (v := ?_) rfl (by kernel_rfl) (by kernel_rfl) (by kernel_rfl) (fun _ _ _ h => h) (Or.inl ⟨by rfl, ?_⟩) ?_
    rotate_left 1
    · (intro w; go_simp; try with_reducible rfl)
    try simp only [Act.put, List.setIfInBounds_toArray, List.set_cons_zero, List.set_cons_succ, List.getElem_toArray, List.getElem_cons_zero, List.getElem_cons_succ]
    refine wpAny_take (i := 3) (v := ?_) rfl (by kernel_rfl) (by kernel_rfl) (by kernel_rfl) (fun _ _ _ h => h) (Or.inl ⟨by rfl, ?_⟩) ?_
    rotate_left 1
    · (intro w; go_simp; try with_reducible rfl)
    try simp only [Act.put, List.setIfInBounds_toArray, List.set_cons_zero, List.set_cons_succ, List.getElem_toArray, List.getElem_cons_zero, List.getElem_cons_succ]
    refine wpAny_take (i := 4) (v := ?_) rfl (by kernel_rfl) (by kernel_rfl) (by kernel_rfl) (fun _ _ _ h => h) (Or.inl ⟨by rfl, ?_⟩) ?_
    rotate_left 1
    · (intro w; go_simp; try with_reducible rfl)
    try simp only [Act.put, List.setIfInBounds_toArray, List.set_cons_zero, List.set_cons_succ, List.getElem_toArray, List.getElem_cons_zero, List.getElem_cons_succ]
    refine wpAny_take (i := 5) (v := ?_) rfl (by kernel_rfl) (by kernel_rfl) (by kernel_rfl) (fun _ _ _ h => h) (Or.inl ⟨by rfl, ?_⟩) ?_
    rotate_left 1
    · (intro w; go_simp; try with_reducible rfl)
    try simp only [Act.put, List.setIfInBounds_toArray, List.set_cons_zero, List.set_cons_succ, List.getElem_toArray, List.getElem_cons_zero, List.getElem_cons_succ]
    refine wpAny_take (i := 6) (v := ?_) rfl (by kernel_rfl) (by kernel_rfl) (by kernel_rfl) (fun _ _ _ h => h) (Or.inl ⟨by rfl, ?_⟩) ?_
    rotate_left 1
    · (intro w; go_simp; try with_reducible rfl)
    try simp only [Act.put, List.setIfInBounds_toArray, List.set_cons_zero, List.set_cons_succ, List.getElem_toArray, List.getElem_cons_zero, List.getElem_cons_succ]
    refine wpAny_take (i := 7) (v := ?_) rfl (by kernel_rfl) (by kernel_rfl) (by kernel_rfl) (fun _ _ _ h => h) (Or.inl ⟨by rfl, ?_⟩) ?_
    rotate_left 1
    · (intro w; go_simp; try with_reducible rfl)
    try simp only [Act.put, List.setIfInBounds_toArray, List.set_cons_zero, List.set_cons_succ, List.getElem_toArray, List.getElem_cons_zero, List.getElem_cons_succ]
    refine wpAny_ready (rs := [8]) (by kernel_rfl) (by simp) ?_
    refine AllReady.cons rfl (fun K hK => ?_) (AllReady.nil)
    try simp only [List.setIfInBounds_toArray, List.set_cons_zero, List.set_cons_succ, List.getElem_toArray, List.getElem_cons_zero, List.getElem_cons_succ]
    (first | (go_simp; go_at_call 136; (with_reducible refine H.out.mono ?_); rintro e w2 ⟨rfl, hb2⟩) | (go_simp; go_at_call 169; (with_reducible refine (hX.out _).mono ?_); rintro e w' ⟨rfl, rfl⟩))
    try go_simp
    try (refine hK _ _ ?_; clear hK K)
    refine wpAny_take (i := 9) (v := ?_) rfl (by kernel_rfl) (by kernel_rfl) (by kernel_rfl) (fun _ _ _ h => h) (Or.inl ⟨by rfl, ?_⟩) ?_
    rotate_left 1
    · (intro w; go_simp; try with_reducible rfl)
    try simp only [Act.put, List.setIfInBounds_toArray, List.set_cons_zero, List.set_cons_succ, List.getElem_toArray, List.getElem_cons_zero, List.getElem_cons_succ]
    refine wpAny_take (i := 10) (v := ?_) rfl (by kernel_rfl) (by kernel_rfl) (by kernel_rfl) (fun _ _ _ h => h) (Or.inl ⟨by rfl, ?_⟩) ?_
    rotate_left 1
    · (intro w; go_simp; try with_reducible rfl)
    try simp only [Act.put, List.setIfInBounds_toArray, List.set_cons_zero, List.set_cons_succ, List.getElem_toArray, List.getElem_cons_zero, List.getElem_cons_succ]
    refine wpAny_take (i := 11) (v := ?_) rfl (by kernel_rfl) (by kernel_rfl) (by kernel_rfl) (fun _ _ _ h => h) (Or.inl ⟨by rfl, ?_⟩) ?_
    rotate_left 1
    · (intro w; go_simp; try with_reducible rfl)
    try simp only [Act.put, List.setIfInBounds_toArray, List.set_cons_zero, List.set_cons_succ, List.getElem_toArray, List.getElem_cons_zero, List.getElem_cons_succ]
    refine wpAny_take (i := 12) (v := undef) rfl (by kernel_rfl) (by kernel_rfl) (by kernel_rfl) (fun _ _ _ h => h) (Or.inr ⟨by rfl, rfl⟩) ?_
    try simp only [Act.put, List.setIfInBounds_toArray, List.set_cons_zero, List.set_cons_succ, List.getElem_toArray, List.getElem_cons_zero, List.getElem_cons_succ]
    refine wpAny_take (i := 13) (v := undef) rfl (by kernel_rfl) (by kernel_rfl) (by kernel_rfl) (fun _ _ _ h => h) (Or.inr ⟨by rfl, rfl⟩) ?_
    try simp only [Act.put, List.setIfInBounds_toArray, List.set_cons_zero, List.set_cons_succ, List.getElem_toArray, List.getElem_cons_zero, List.getElem_cons_succ]
    refine wpAny_take (i := 14) (v := undef) rfl (by kernel_rfl) (by kernel_rfl) (by kernel_rfl) (fun _ _ _ h => h) (Or.inr ⟨by rfl, rfl⟩) ?_
    try simp only [Act.put, List.setIfInBounds_toArray, List.set_cons_zero, List.set_cons_succ, List.getElem_toArray, List.getElem_cons_zero, List.getElem_cons_succ]
    refine wpAny_take (i := 15) (v := undef) rfl (by kernel_rfl) (by kernel_rfl) (by kernel_rfl) (fun _ _ _ h => h) (Or.inr ⟨by rfl, rfl⟩) ?_
    try simp only [Act.put, List.setIfInBounds_toArray, List.set_cons_zero, List.set_cons_succ, List.getElem_toArray, List.getElem_cons_zero, List.getElem_cons_succ]
    refine wpAny_take (i := 16) (v := undef) rfl (by kernel_rfl) (by kernel_rfl) (by kernel_rfl) (fun _ _ _ h => h) (Or.inr ⟨by rfl, rfl⟩) ?_
    try simp only [Act.put, List.setIfInBounds_toArray, List.set_cons_zero, List.set_cons_succ, List.getElem_toArray, List.getElem_cons_zero, List.getElem_cons_succ]
    refine wpAny_take (i := 17) (v := undef) rfl (by kernel_rfl) (by kernel_rfl) (by kernel_rfl) (fun _ _ _ h => h) (Or.inr ⟨by rfl, rfl⟩) ?_
    try simp only [Act.put, List.setIfInBounds_toArray, List.set_cons_zero, List.set_cons_succ, List.getElem_toArray, List.getElem_cons_zero, List.getElem_cons_succ]
    refine wpAny_take (i := 18) (v := undef) rfl (by kernel_rfl) (by kernel_rfl) (by kernel_rfl) (fun _ _ _ h => h) (Or.inr ⟨by rfl, rfl⟩) ?_
    try simp only [Act.put, List.setIfInBounds_toArray, List.set_cons_zero, List.set_cons_succ, List.getElem_toArray, List.getElem_cons_zero, List.getElem_cons_succ]
    refine wpAny_take (i := 19) (v := undef) rfl (by kernel_rfl) (by kernel_rfl) (by kernel_rfl) (fun _ _ _ h => h) (Or.inr ⟨by rfl, rfl⟩) ?_
    try simp only [Act.put, List.setIfInBounds_toArray, List.set_cons_zero, List.set_cons_succ, List.getElem_toArray, List.getElem_cons_zero, List.getElem_cons_succ]
    refine wpAny_take (i := 20) (v := undef) rfl (by kernel_rfl) (by kernel_rfl) (by kernel_rfl) (fun _ _ _ h => h) (Or.inr ⟨by rfl, rfl⟩) ?_
    try simp only [Act.put, List.setIfInBounds_toArray, List.set_cons_zero, List.set_cons_succ, List.getElem_toArray, List.getElem_cons_zero, List.getElem_cons_succ]
    refine wpAny_take (i := 21) (v := undef) rfl (by kernel_rfl) (by kernel_rfl) (by kernel_rfl) (fun _ _ _ h => h) (Or.inr ⟨by rfl, rfl⟩) ?_
    try simp only [Act.put, List.setIfInBounds_toArray, List.set_cons_zero, List.set_cons_succ, List.getElem_toArray, List.getElem_cons_zero, List.getElem_cons_succ]
    refine wpAny_take (i := 22) (v := undef) rfl (by kernel_rfl) (by kernel_rfl) (by kernel_rfl) (fun _ _ _ h => h) (Or.inr ⟨by rfl, rfl⟩) ?_
    try simp only [Act.put, List.setIfInBounds_toArray, List.set_cons_zero, List.set_cons_succ, List.getElem_toArray, List.getElem_cons_zero, List.getElem_cons_succ]
    refine wpAny_take (i := 23) (v := ?_) rfl (by kernel_rfl) (by kernel_rfl) (by kernel_rfl) (fun _ _ _ h => h) (Or.inl ⟨by rfl, ?_⟩) ?_
    rotate_left 1
    · (intro w; go_simp; try with_reducible rfl)
    try simp only [Act.put, List.setIfInBounds_toArray, List.set_cons_zero, List.set_cons_succ, List.getElem_toArray, List.getElem_cons_zero, List.getElem_cons_succ]
    refine wpAny_done (by kernel_rfl) ?_ _
    rotate_left 1
    all_goals
      go_wp2
      go_ret2
      rw [hR.out, hK.out]; exact ⟨none, 0, rfl, OK.nil _ _ _ _, hB0.out.trans hb2⟩
  obtain ⟨n, rfl, hn⟩ := inR_nat hr
  have hr' := Lib.hid hr
  have hX := Lib.hid (l1In_lit _ _ _ _ hr)
  have hwr : IntKind.i64.wrap ((es.length : Int) - 2) = (es.length : Int) - 2 := IntWalk.i64_in _ (by omega)
  have hn' : n < es.length := by omega
  clear hr
  obtain ⟨b, o, rfl, ⟨_, hbB⟩, hc0⟩ := In.cells hE.out (by omega)
  have hC0 := Lib.hid hc0
  clear hc0
  have hg0 : es.getD n zeroIn = es[n] := by rw [List.getD_eq_getElem?_getD, List.getElem?_eq_getElem hn']; rfl
  have hg1 : es.getD (n + 1) zeroIn = es[n + 1] := by rw [List.getD_eq_getElem?_getD, List.getElem?_eq_getElem hn]; rfl
  have hK0 : Hid (swOk es n = freeB es[n] es[n + 1]) := by rw [Hid, swOk, hG.out, hr'.out, Int.toNat_natCast, hg0, hg1]; rfl
  have hR0 : Hid (swOk es n = true → swapR es n = (es.set n es[n + 1]).set (n + 1) es[n]) := by intro h; rw [swapR, if_pos h, Int.toNat_natCast, hg0, hg1]
  have hA := Lib.hid (fun W => cdFree_any es[n] es[n + 1] W)
  clear hg0 hg1
  have hCx := Lib.hid (hC0.out n hn')
  have hCy := Lib.hid (hC0.out (n + 1) hn)
  have i1 : (n : Int) < es.length := by omega
  have i2 : (n : Int) + 1 < es.length := by omega
  have hw1 : IntKind.i64.wrap ((n : Int) + 1) = (n : Int) + 1 := IntWalk.i64_in _ (by omega)
  have hw2 : ((n : Int) + 1).toNat = n + 1 := by omega
  have i0' : (0 : Int) ≤ (n : Int) + 1 := by omega
  generalize hx : es[n] = x at *
  generalize hy : es[n + 1] = y at *
  obtain ⟨op, d, a, b1, m⟩ := x
  obtain ⟨op', d', a', b1', m'⟩ := y
  have hxx := Lib.hid hx
  have hyy := Lib.hid hy
  clear hx hy
  simp only at hA hCx hCy
  generalize hf : freeB ⟨op, d, a, b1, m⟩ ⟨op', d', a', b1', m'⟩ = F at *
  have hbw : b < w.heap.size := by have := hBB.out; omega
  clear hf
  go_enter Try.func56, Try.ntmps56
  go_wp2_with (fail)
  refine wp_region_any (by kernel_rfl) ?_
  try (change wpAny _ _ _ _ _ _ _ (World.drew _))
  refine wpAny_take (i := 0) (v := ?_) rfl (by kernel_rfl) (by kernel_rfl) (by kernel_rfl) (fun _ _ _ h => h) (Or.inl ⟨by rfl, ?_⟩) ?_
  rotate_left 1
  · (intro w; go_simp; try with_reducible rfl)
  try simp only [Act.put, List.setIfInBounds_toArray, List.set_cons_zero, List.set_cons_succ, List.getElem_toArray, List.getElem_cons_zero, List.getElem_cons_succ]
  refine wpAny_ready (rs := [1]) (by kernel_rfl) (by simp) ?_
  refine AllReady.cons rfl (fun K hK => ?_) (AllReady.nil)
  try simp only [List.setIfInBounds_toArray, List.set_cons_zero, List.set_cons_succ, List.getElem_toArray, List.getElem_cons_zero, List.getElem_cons_succ]
  (first | (go_simp; go_at_call 136; (with_reducible refine H.out.mono ?_); rintro e w2 ⟨rfl, hb2⟩; obtain ⟨c1, c2, c3, c4, c5⟩ := hCx.out; obtain ⟨d1, d2, d3, d4, d5⟩ := hCy.out; have c1 := (hb2.cell (by exact hbw)).trans c1; have c2 := (hb2.cell (by exact hbw)).trans c2; have c3 := (hb2.cell (by exact hbw)).trans c3; have c4 := (hb2.cell (by exact hbw)).trans c4; have c5 := (hb2.cell (by exact hbw)).trans c5; have d1 := (hb2.cell (by exact hbw)).trans d1; have d2 := (hb2.cell (by exact hbw)).trans d2; have d3 := (hb2.cell (by exact hbw)).trans d3; have d4 := (hb2.cell (by exact hbw)).trans d4; have d5 := (hb2.cell (by exact hbw)).trans d5) | (go_simp; go_at_call 169; (with_reducible refine (hX.out _).mono ?_); rintro e w' ⟨rfl, rfl⟩) | (go_simp; go_at_call 170; (with_reducible refine (hA.out _).mono ?_); rintro e w3 ⟨rfl, hb3⟩))
  try go_simp
  try (refine hK _ _ ?_; clear hK K)
  refine wpAny_take (i := 2) (v := ?_) rfl (by kernel_rfl) (by kernel_rfl) (by kernel_rfl) (fun _ _ _ h => h) (Or.inl ⟨by rfl, ?_⟩) ?_
  rotate_left 1
  · (intro w; go_simp; try with_reducible rfl)
  try simp only [Act.put, List.setIfInBounds_toArray, List.set_cons_zero, List.set_cons_succ, List.getElem_toArray, List.getElem_cons_zero, List.getElem_cons_succ]
  refine wpAny_take (i := 3) (v := ?_) rfl (by kernel_rfl) (by kernel_rfl) (by kernel_rfl) (fun _ _ _ h => h) (Or.inl ⟨by rfl, ?_⟩) ?_
  rotate_left 1
  · (intro w; go_simp; try with_reducible rfl)
  try simp only [Act.put, List.setIfInBounds_toArray, List.set_cons_zero, List.set_cons_succ, List.getElem_toArray, List.getElem_cons_zero, List.getElem_cons_succ]
  refine wpAny_take (i := 4) (v := ?_) rfl (by kernel_rfl) (by kernel_rfl) (by kernel_rfl) (fun _ _ _ h => h) (Or.inl ⟨by rfl, ?_⟩) ?_
  rotate_left 1
  · (intro w; go_simp; try with_reducible rfl)
  try simp only [Act.put, List.setIfInBounds_toArray, List.set_cons_zero, List.set_cons_succ, List.getElem_toArray, List.getElem_cons_zero, List.getElem_cons_succ]
  refine wpAny_take (i := 5) (v := ?_) rfl (by kernel_rfl) (by kernel_rfl) (by kernel_rfl) (fun _ _ _ h => h) (Or.inl ⟨by rfl, ?_⟩) ?_
  rotate_left 1
  · (intro w; go_simp; try with_reducible rfl)
  try simp only [Act.put, List.setIfInBounds_toArray, List.set_cons_zero, List.set_cons_succ, List.getElem_toArray, List.getElem_cons_zero, List.getElem_cons_succ]
  refine wpAny_take (i := 6) (v := ?_) rfl (by kernel_rfl) (by kernel_rfl) (by kernel_rfl) (fun _ _ _ h => h) (Or.inl ⟨by rfl, ?_⟩) ?_
  rotate_left 1
  · (intro w; go_simp; try with_reducible rfl)
  try simp only [Act.put, List.setIfInBounds_toArray, List.set_cons_zero, List.set_cons_succ, List.getElem_toArray, List.getElem_cons_zero, List.getElem_cons_succ]
  refine wpAny_take (i := 7) (v := ?_) rfl (by kernel_rfl) (by kernel_rfl) (by kernel_rfl) (fun _ _ _ h => h) (Or.inl ⟨by rfl, ?_⟩) ?_
  rotate_left 1
  · (intro w; go_simp; try with_reducible rfl)
  try simp only [Act.put, List.setIfInBounds_toArray, List.set_cons_zero, List.set_cons_succ, List.getElem_toArray, List.getElem_cons_zero, List.getElem_cons_succ]
  refine wpAny_ready (rs := [8]) (by kernel_rfl) (by simp) ?_
  refine AllReady.cons rfl (fun K hK => ?_) (AllReady.nil)
  try simp only [List.setIfInBounds_toArray, List.set_cons_zero, List.set_cons_succ, List.getElem_toArray, List.getElem_cons_zero, List.getElem_cons_succ]
  (first | (go_simp; go_at_call 136; (with_reducible refine H.out.mono ?_); rintro e w2 ⟨rfl, hb2⟩; obtain ⟨c1, c2, c3, c4, c5⟩ := hCx.out; obtain ⟨d1, d2, d3, d4, d5⟩ := hCy.out; have c1 := (hb2.cell (by exact hbw)).trans c1; have c2 := (hb2.cell (by exact hbw)).trans c2; have c3 := (hb2.cell (by exact hbw)).trans c3; have c4 := (hb2.cell (by exact hbw)).trans c4; have c5 := (hb2.cell (by exact hbw)).trans c5; have d1 := (hb2.cell (by exact hbw)).trans d1; have d2 := (hb2.cell (by exact hbw)).trans d2; have d3 := (hb2.cell (by exact hbw)).trans d3; have d4 := (hb2.cell (by exact hbw)).trans d4; have d5 := (hb2.cell (by exact hbw)).trans d5) | (go_simp; go_at_call 169; (with_reducible refine (hX.out _).mono ?_); rintro e w' ⟨rfl, rfl⟩) | (go_simp; go_at_call 170; (with_reducible refine (hA.out _).mono ?_); rintro e w3 ⟨rfl, hb3⟩))
  try go_simp
  try (refine hK _ _ ?_; clear hK K)
  refine wpAny_take (i := 9) (v := ?_) rfl (by kernel_rfl) (by kernel_rfl) (by kernel_rfl) (fun _ _ _ h => h) (Or.inl ⟨by rfl, ?_⟩) ?_
  rotate_left 1
  · (intro w; go_simp; try with_reducible rfl)
  try simp only [Act.put, List.setIfInBounds_toArray, List.set_cons_zero, List.set_cons_succ, List.getElem_toArray, List.getElem_cons_zero, List.getElem_cons_succ]
  refine wpAny_take (i := 10) (v := ?_) rfl (by kernel_rfl) (by kernel_rfl) (by kernel_rfl) (fun _ _ _ h => h) (Or.inl ⟨by rfl, ?_⟩) ?_
  rotate_left 1
  · (intro w; go_simp; try with_reducible rfl)
  try simp only [Act.put, List.setIfInBounds_toArray, List.set_cons_zero, List.set_cons_succ, List.getElem_toArray, List.getElem_cons_zero, List.getElem_cons_succ]
  refine wpAny_take (i := 11) (v := ?_) rfl (by kernel_rfl) (by kernel_rfl) (by kernel_rfl) (fun _ _ _ h => h) (Or.inl ⟨by rfl, ?_⟩) ?_
  rotate_left 1
  · (intro w; go_simp; try with_reducible rfl)
  try simp only [Act.put, List.setIfInBounds_toArray, List.set_cons_zero, List.set_cons_succ, List.getElem_toArray, List.getElem_cons_zero, List.getElem_cons_succ]
  refine wpAny_take (i := 12) (v := ?_) rfl (by kernel_rfl) (by kernel_rfl) (by kernel_rfl) (fun _ _ _ h => h) (Or.inl ⟨by rfl, ?_⟩) ?_
  rotate_left 1
  · (intro w; go_simp; try with_reducible rfl)
  try simp only [Act.put, List.setIfInBounds_toArray, List.set_cons_zero, List.set_cons_succ, List.getElem_toArray, List.getElem_cons_zero, List.getElem_cons_succ]
  refine wpAny_take (i := 13) (v := ?_) rfl (by kernel_rfl) (by kernel_rfl) (by kernel_rfl) (fun _ _ _ h => h) (Or.inl ⟨by rfl, ?_⟩) ?_
  rotate_left 1
  · (intro w; go_simp; try with_reducible rfl)
  try simp only [Act.put, List.setIfInBounds_toArray, List.set_cons_zero, List.set_cons_succ, List.getElem_toArray, List.getElem_cons_zero, List.getElem_cons_succ]
  refine wpAny_take (i := 14) (v := ?_) rfl (by kernel_rfl) (by kernel_rfl) (by kernel_rfl) (fun _ _ _ h => h) (Or.inl ⟨by rfl, ?_⟩) ?_
  rotate_left 1
  · (intro w; go_simp; try with_reducible rfl)
  try simp only [Act.put, List.setIfInBounds_toArray, List.set_cons_zero, List.set_cons_succ, List.getElem_toArray, List.getElem_cons_zero, List.getElem_cons_succ]
  refine wpAny_take (i := 16) (v := ?_) rfl (by kernel_rfl) (by kernel_rfl) (by kernel_rfl) (fun _ _ _ h => h) (Or.inl ⟨by rfl, ?_⟩) ?_
  rotate_left 1
  · (intro w; go_simp; try with_reducible rfl)
  try simp only [Act.put, List.setIfInBounds_toArray, List.set_cons_zero, List.set_cons_succ, List.getElem_toArray, List.getElem_cons_zero, List.getElem_cons_succ]
  refine wpAny_take (i := 17) (v := ?_) rfl (by kernel_rfl) (by kernel_rfl) (by kernel_rfl) (fun _ _ _ h => h) (Or.inl ⟨by rfl, ?_⟩) ?_
  rotate_left 1
  · (intro w; go_simp; try with_reducible rfl)
  try simp only [Act.put, List.setIfInBounds_toArray, List.set_cons_zero, List.set_cons_succ, List.getElem_toArray, List.getElem_cons_zero, List.getElem_cons_succ]
  refine wpAny_take (i := 18) (v := ?_) rfl (by kernel_rfl) (by kernel_rfl) (by kernel_rfl) (fun _ _ _ h => h) (Or.inl ⟨by rfl, ?_⟩) ?_
  rotate_left 1
  · (intro w; go_simp; try with_reducible rfl)
  try simp only [Act.put, List.setIfInBounds_toArray, List.set_cons_zero, List.set_cons_succ, List.getElem_toArray, List.getElem_cons_zero, List.getElem_cons_succ]
  refine wpAny_take (i := 19) (v := ?_) rfl (by kernel_rfl) (by kernel_rfl) (by kernel_rfl) (fun _ _ _ h => h) (Or.inl ⟨by rfl, ?_⟩) ?_
  rotate_left 1
  · (intro w; go_simp; try with_reducible rfl)
  try simp only [Act.put, List.setIfInBounds_toArray, List.set_cons_zero, List.set_cons_succ, List.getElem_toArray, List.getElem_cons_zero, List.getElem_cons_succ]
  refine wpAny_ready (rs := [15, 20]) (by kernel_rfl) (by simp) ?_
  refine AllReady.cons rfl (fun K hK => ?_) (AllReady.cons rfl (fun K hK => ?_) (AllReady.nil))
  try simp only [List.setIfInBounds_toArray, List.set_cons_zero, List.set_cons_succ, List.getElem_toArray, List.getElem_cons_zero, List.getElem_cons_succ]
  go_simp
  try (refine hK _ _ ?_; clear hK K)
  refine wpAny_ready (rs := [20]) (by kernel_rfl) (by simp) ?_
  refine AllReady.cons rfl (fun K hK => ?_) (AllReady.nil)
  try simp only [List.setIfInBounds_toArray, List.set_cons_zero, List.set_cons_succ, List.getElem_toArray, List.getElem_cons_zero, List.getElem_cons_succ]
  go_simp
  try (refine hK _ _ ?_; clear hK K)
  refine wpAny_ready (rs := [21]) (by kernel_rfl) (by simp) ?_
  refine AllReady.cons rfl (fun K hK => ?_) (AllReady.nil)
  try simp only [List.setIfInBounds_toArray, List.set_cons_zero, List.set_cons_succ, List.getElem_toArray, List.getElem_cons_zero, List.getElem_cons_succ]
  (first | (go_simp; go_at_call 136; (with_reducible refine H.out.mono ?_); rintro e w2 ⟨rfl, hb2⟩; obtain ⟨c1, c2, c3, c4, c5⟩ := hCx.out; obtain ⟨d1, d2, d3, d4, d5⟩ := hCy.out; have c1 := (hb2.cell (by exact hbw)).trans c1; have c2 := (hb2.cell (by exact hbw)).trans c2; have c3 := (hb2.cell (by exact hbw)).trans c3; have c4 := (hb2.cell (by exact hbw)).trans c4; have c5 := (hb2.cell (by exact hbw)).trans c5; have d1 := (hb2.cell (by exact hbw)).trans d1; have d2 := (hb2.cell (by exact hbw)).trans d2; have d3 := (hb2.cell (by exact hbw)).trans d3; have d4 := (hb2.cell (by exact hbw)).trans d4; have d5 := (hb2.cell (by exact hbw)).trans d5) | (go_simp; go_at_call 169; (with_reducible refine (hX.out _).mono ?_); rintro e w' ⟨rfl, rfl⟩) | (go_simp; go_at_call 170; (with_reducible refine (hA.out _).mono ?_); rintro e w3 ⟨rfl, hb3⟩))
  try go_simp
  try (refine hK _ _ ?_; clear hK K)
  refine wpAny_take (i := 22) (v := ?_) rfl (by kernel_rfl) (by kernel_rfl) (by kernel_rfl) (fun _ _ _ h => h) (Or.inl ⟨by rfl, ?_⟩) ?_
  rotate_left 1
  · (intro w; go_simp; try with_reducible rfl)
  try simp only [Act.put, List.setIfInBounds_toArray, List.set_cons_zero, List.set_cons_succ, List.getElem_toArray, List.getElem_cons_zero, List.getElem_cons_succ]
  refine wpAny_take (i := 23) (v := ?_) rfl (by kernel_rfl) (by kernel_rfl) (by kernel_rfl) (fun _ _ _ h => h) (Or.inl ⟨by rfl, ?_⟩) ?_
  rotate_left 1
  · (intro w; go_simp; try with_reducible rfl)
  try simp only [Act.put, List.setIfInBounds_toArray, List.set_cons_zero, List.set_cons_succ, List.getElem_toArray, List.getElem_cons_zero, List.getElem_cons_succ]
  refine wpAny_done (by kernel_rfl) ?_ _
  rotate_left 1
  try simp only [List.setIfInBounds_toArray, List.set_cons_zero, List.set_cons_succ, List.getElem_toArray, List.getElem_cons_zero, List.getElem_cons_succ]
  go_simp
  try (refine hK _ _ ?_; clear hK K)
  refine wpAny_ready (rs := [15]) (by kernel_rfl) (by simp) ?_
  refine AllReady.cons rfl (fun K hK => ?_) (AllReady.nil)
  try simp only [List.setIfInBounds_toArray, List.set_cons_zero, List.set_cons_succ, List.getElem_toArray, List.getElem_cons_zero, List.getElem_cons_succ]
  go_simp
  try (refine hK _ _ ?_; clear hK K)
  refine wpAny_ready (rs := [21]) (by kernel_rfl) (by simp) ?_
  refine AllReady.cons rfl (fun K hK => ?_) (AllReady.nil)
  try simp only [List.setIfInBounds_toArray, List.set_cons_zero, List.set_cons_succ, List.getElem_toArray, List.getElem_cons_zero, List.getElem_cons_succ]
  (first | (go_simp; go_at_call 136; (with_reducible refine H.out.mono ?_); rintro e w2 ⟨rfl, hb2⟩; obtain ⟨c1, c2, c3, c4, c5⟩ := hCx.out; obtain ⟨d1, d2, d3, d4, d5⟩ := hCy.out; have c1 := (hb2.cell (by exact hbw)).trans c1; have c2 := (hb2.cell (by exact hbw)).trans c2; have c3 := (hb2.cell (by exact hbw)).trans c3; have c4 := (hb2.cell (by exact hbw)).trans c4; have c5 := (hb2.cell (by exact hbw)).trans c5; have d1 := (hb2.cell (by exact hbw)).trans d1; have d2 := (hb2.cell (by exact hbw)).trans d2; have d3 := (hb2.cell (by exact hbw)).trans d3; have d4 := (hb2.cell (by exact hbw)).trans d4; have d5 := (hb2.cell (by exact hbw)).trans d5) | (go_simp; go_at_call 169; (with_reducible refine (hX.out _).mono ?_); rintro e w' ⟨rfl, rfl⟩) | (go_simp; go_at_call 170; (with_reducible refine (hA.out _).mono ?_); rintro e w3 ⟨rfl, hb3⟩))
  try go_simp
  try (refine hK _ _ ?_; clear hK K)
  refine wpAny_take (i := 22) (v := ?_) rfl (by kernel_rfl) (by kernel_rfl) (by kernel_rfl) (fun _ _ _ h => h) (Or.inl ⟨by rfl, ?_⟩) ?_
  rotate_left 1
  · (intro w; go_simp; try with_reducible rfl)
  try simp only [Act.put, List.setIfInBounds_toArray, List.set_cons_zero, List.set_cons_succ, List.getElem_toArray, List.getElem_cons_zero, List.getElem_cons_succ]
  refine wpAny_take (i := 23) (v := ?_) rfl (by kernel_rfl) (by kernel_rfl) (by kernel_rfl) (fun _ _ _ h => h) (Or.inl ⟨by rfl, ?_⟩) ?_
  rotate_left 1
  · (intro w; go_simp; try with_reducible rfl)
  try simp only [Act.put, List.setIfInBounds_toArray, List.set_cons_zero, List.set_cons_succ, List.getElem_toArray, List.getElem_cons_zero, List.getElem_cons_succ]
  refine wpAny_done (by kernel_rfl) ?_ _
  rotate_left 1
  all_goals
    have hbb2 := Lib.hid (hB0.out.trans hb2)
    have hz2 := hb2.size
    have hz3 := hb3.size
    have hz2' : w.heap.size ≤ w2.heap.size := hz2
    have hbb3 := Lib.hid (hbb2.out.trans (hb3.mono hz2'))
    have hE3 := Lib.hid (hE.out.below hbb3.out hBB.out)
    clear hb2 hb3 c1 c2 c3 c4 c5 d1 d2 d3 d4 d5
    cases F
    · have hK : Hid (swOk es n = false) := hK0.out
      have hR := Lib.hid (swapR_no hK.out)
      go_wp2
      go_ret2
      rw [hR.out, hK.out]; exact ⟨none, 0, rfl, OK.nil _ _ _ _, hbb3.out⟩
    have hK : Hid (swOk es n = true) := hK0.out
    have hR := Lib.hid (hR0.out hK.out)
    obtain ⟨i0, hi, hz0, hz1, hz2x⟩ := info_parts Try.infoInstr
    have hz3' : Hid (w.heap.size ≤ w3.heap.size) := Nat.le_trans hz2' hz3
    have hBz : Hid (B ≤ w3.heap.size) := Nat.le_trans hBB.out hz3'.out
    have hb3w : Hid (b < w3.heap.size) := Nat.lt_of_lt_of_le hbB hBz.out
    have hb0 := Lib.hid ((Below.refl w3.heap.size w3).alloc (Nat.le_refl _) (.cells #[] 56))
    have hnews := Lib.hid ((hE3.out.below hb0.out (by have := hBB.out; omega)).news In.hk)
    have hown := Lib.hid (World.ownsRow_made (base := w3.heap.size) (e := 56) (size := 5) w3 #[] 0 (Nat.le_refl _) (by unfold maxLen; omega) (by simp))
    go_wp2_with (at_builtin; refine wpList_append_src rfl (.tmp 31) (.tmp 32) 42 rfl w3.heap.size 56 i0 _ 5 48 Try.underlying42 hi hz0 hz1 hz2x rfl (by decide) _ 0 [] rfl hown.out (some ⟨b, o, none⟩) es.length c (es.flatMap In.enc) rfl (kflat_len In.hk es) hnews.out (five_ones es) (by unfold maxLen; omega) (by omega) (by simp) ?_; intro v' w4 hown' hgrow _; simp only [Nat.zero_add, List.nil_append] at hown'; have ho4 := OK.ofRow hown' rfl; have hb4 : Below w3.heap.size w3 w4 := (hb0.out.grown hgrow (by simp) (fun k hk => (by cases hk; exact Nat.le_refl _))); have hz4 := hb4.size; have hbb4 := Lib.hid (hbb3.out.trans (hb4.mono hz3'.out)); obtain ⟨⟨c1, c2, c3, c4, c5⟩, ⟨d1, d2, d3, d4, d5⟩⟩ := code_two (hE3.out.below hb4 hBz.out) hn hxx.out hyy.out; simp only at c1 c2 c3 c4 c5 d1 d2 d3 d4 d5; obtain ⟨g, cap, rest, rfl, hgl, hgh, hlc, hcm, hcb, hcl⟩ := OK.some' ho4 (Nat.lt_of_le_of_lt (Nat.zero_le _) hn); have hCB := Lib.hid hcb; have hgl' := Lib.hid hgl; have hcl' := Lib.hid hcl; have hcm' := Lib.hid hcm; have hlc' := Lib.hid hlc; obtain ⟨z0, z1, z2, z3, z4, p1, p2, p3, p4, p5⟩ := In.cellsB hcb n hn'; obtain ⟨y0, y1, y2, y3, y4, q1, q2, q3, q4, q5⟩ := In.cellsB hcb (n + 1) hn; have f1 := hcb.frozen (n * 5); have f2 := hcb.frozen (n * 5 + 1); have f3 := hcb.frozen (n * 5 + 2); have f4 := hcb.frozen (n * 5 + 3); have f5 := hcb.frozen (n * 5 + 4); have g1 := hcb.frozen ((n + 1) * 5); have g2 := hcb.frozen ((n + 1) * 5 + 1); have g3 := hcb.frozen ((n + 1) * 5 + 2); have g4 := hcb.frozen ((n + 1) * 5 + 3); have g5 := hcb.frozen ((n + 1) * 5 + 4); have hne : ¬ b = g := (fun e => by rw [e] at hb3w; exact absurd (Nat.lt_of_lt_of_le hb3w.out hgl) (Nat.lt_irrefl _)); have hne' : ¬ g = b := fun h => hne h.symm; clear hcb ho4 hown' hgrow hcl hcm hgl hgh hb4 hi hz0 hz1 hz2x)
    have hgw : w.heap.size ≤ g := Nat.le_trans hz3'.out hgl'.out
    have h1 := hCB.out.store In.hk n hn' ⟨op', d', a', b1', m'⟩
    have h2 := h1.store In.hk (n + 1) (by rw [List.length_set]; exact hn) ⟨op, d, a, b1, m⟩
    have hle : ((es.set n (⟨op', d', a', b1', m'⟩ : In)).set (n + 1) ⟨op, d, a, b1, m⟩).length = es.length := by rw [List.length_set, List.length_set]
    have h3 := OK.close (lo := w.heap.size) In.hk h2 hgw (CB.lt h2) (by rw [hle]; exact hlc) hcm'.out (by have hcl := hcl'.out; rw [List.length_append, kflat_len In.hk, hle]; rw [List.length_append, kflat_len In.hk] at hcl; exact hcl)
    have hfin := Lib.hid h3
    have hle' := Lib.hid hle
    have hbf := Lib.hid (below_setCells (In.enc ⟨op, d, a, b1, m⟩) g ((n + 1) * 5) (below_setCells (In.enc ⟨op', d', a', b1', m'⟩) g (n * 5) hbb4.out hgw) hgw)
    clear h1 h2 h3 hle
    simp only [setCells, In.enc, Nat.add_assoc, Nat.reduceAdd] at hfin hbf
    clear c1 c2 c3 c4 c5 d1 d2 d3 d4 d5 p1 p2 p3 p4 p5 q1 q2 q3 q4 q5 f1 f2 f3 f4 f5 g1 g2 g3 g4 g5 hCB
    generalize (World.setCell _ _ _) = W at hfin hbf ⊢
    generalize ((es.set n (⟨op', d', a', b1', m'⟩ : In)).set (n + 1) ⟨op, d, a, b1, m⟩) = Z at *
    go_ret2
    rw [hR.out, hK.out]
    refine ⟨some ⟨g, 0, none⟩, cap, by rw [hle'.out]; rfl, ?_, ?_⟩
    · exact hfin.out
    · first | exact hbf.out | exact hbf.out.drew
end Go.Proofs.Ytmhdijklindipaa

/- Swaps of a block: plain. -/
namespace Go.Proofs.Ytmhdijklindipaa
open Go.RowKit
set_option linter.unusedVariables false

theorem getD_in {es : List In} {k : Nat} (h : k < es.length) : es.getD k zeroIn = es[k] := by rw [List.getD_eq_getElem?_getD, List.getElem?_eq_getElem h]; rfl
def blkOk (es : List In) : Bool := decide (es.length ≤ 20) && okCode es
theorem blkOk_parts {es : List In} (h : blkOk es = true) : es.length ≤ 20 ∧ okCode es = true := by
  unfold blkOk at h; rw [Bool.and_eq_true] at h; exact ⟨of_decide_eq_true h.1, h.2⟩
abbrev Mv := List In × List Int
/-- One swap: the code and the path. -/
def mvS (st : Mv) (i : Int) : Option Mv := if swOk st.1 i = true ∧ st.2.length ≠ 100 then some (swapR st.1 i, st.2 ++ [i]) else none
def folS (st : Mv) : List Int → Option Mv
  | [] => some st
  | i :: p => (mvS st i).bind fun s => folS s p
theorem folS_append (q : List Int) : ∀ (p : List Int) (st : Mv), folS st (p ++ q) = (folS st p).bind fun s => folS s q
  | [], st => rfl
  | i :: p, st => by
    show (mvS st i).bind (fun s => folS s (p ++ q)) = ((mvS st i).bind fun s => folS s p).bind fun s => folS s q
    rw [Option.bind_assoc]
    congr 1
    funext s
    exact folS_append q p s
theorem folS_one (st : Mv) (i : Int) : folS st [i] = mvS st i := by
  show (mvS st i).bind (fun s => some s) = mvS st i
  cases mvS st i <;> rfl
theorem folS_succ (st : Mv) {p : List Int} {k : Nat} (h : k < p.length) : folS st (p.take (k + 1)) = (folS st (p.take k)).bind fun s => mvS s p[k] := by
  rw [List.take_succ_eq_append_getElem h, folS_append]
  congr 1
  funext s
  exact folS_one s _
theorem folS_no {st : Mv} {p : List Int} {k : Nat} (h : folS st (p.take k) = none) : folS st p = none := by
  rw [← List.take_append_drop k p, folS_append, h]; rfl

theorem okCode_of {es : List In} (h1 : es.length ≤ 40) (h2 : ∀ x ∈ es, goodIn x = true) : okCode es = true := by
  unfold okCode; rw [Bool.and_eq_true]; exact ⟨decide_eq_true h1, List.all_eq_true.2 h2⟩
theorem swOk_parts {es : List In} {i : Int} (h : swOk es i = true) : okCode es = true ∧ inR i 0 (es.length - 2) = true ∧ freeB (es.getD i.toNat zeroIn) (es.getD (i.toNat + 1) zeroIn) = true := by
  unfold swOk at h; simp only [Bool.and_eq_true] at h; exact ⟨h.1.1, h.1.2, h.2⟩
theorem swapR_inv {es : List In} {i : Int} (h : swOk es i = true) : okCode (swapR es i) = true ∧ (swapR es i).length = es.length := by
  obtain ⟨h1, h2, h3⟩ := swOk_parts h
  obtain ⟨n, rfl, hn⟩ := inR_nat h2
  have e : swapR es n = (es.set n (es.getD (n + 1) zeroIn)).set (n + 1) (es.getD n zeroIn) := by rw [swapR, if_pos h, Int.toNat_natCast]
  have hl : (swapR es n).length = es.length := by rw [e, List.length_set, List.length_set]
  have g : ∀ m, m < es.length → es.getD m zeroIn ∈ es := fun m hm => by rw [List.getD_eq_getElem?_getD, List.getElem?_eq_getElem hm]; exact List.getElem_mem hm
  refine ⟨okCode_of (by rw [hl]; exact okCode_len h1) fun x hx => ?_, hl⟩
  rw [e] at hx
  have ha := okCode_all h1
  rcases List.mem_or_eq_of_mem_set hx with hx | rfl
  · rcases List.mem_or_eq_of_mem_set hx with hx | rfl
    · exact ha x hx
    · exact ha _ (g _ (by omega))
  · exact ha _ (g _ (by omega))
theorem mvS_some {st s : Mv} {i : Int} (h : mvS st i = some s) : swOk st.1 i = true ∧ st.2.length ≠ 100 ∧ s = (swapR st.1 i, st.2 ++ [i]) := by
  unfold mvS at h
  split at h
  · rename_i hc; injection h with h; exact ⟨hc.1, hc.2, h.symm⟩
  · cases h
/-- What every state on the way keeps. -/
structure MvInv (a : List In) (st : Mv) : Prop where
  ok : okCode st.1 = true
  len : st.1.length = a.length
  most : st.2.length ≤ 100
theorem MvInv.step {a : List In} {st s : Mv} {i : Int} (h : MvInv a st) (hm : mvS st i = some s) : MvInv a s ∧ s.2 = st.2 ++ [i] := by
  obtain ⟨h1, h2, rfl⟩ := mvS_some hm
  obtain ⟨h3, h4⟩ := swapR_inv h1
  have := h.most
  exact ⟨⟨h3, by show (swapR st.1 i).length = _; rw [h4]; exact h.len, by show (st.2 ++ [i]).length ≤ 100; rw [List.length_append, List.length_singleton]; omega⟩, rfl⟩
theorem MvInv.fol {a : List In} : ∀ (p : List Int) {st s : Mv}, MvInv a st → folS st p = some s → MvInv a s ∧ s.2 = st.2 ++ p ∧ allIn p 0 ((a.length : Int) - 2) = true
  | [], st, s, h, hm => by
    injection hm with hm; subst hm; exact ⟨h, by simp, rfl⟩
  | i :: p, st, s, h, hm => by
    have hm' : (mvS st i).bind (fun s => folS s p) = some s := hm
    cases e : mvS st i with
    | none => rw [e] at hm'; cases hm'
    | some s1 =>
      rw [e] at hm'
      obtain ⟨h1, h2⟩ := h.step e
      obtain ⟨h3, h4, h5⟩ := MvInv.fol p h1 hm'
      refine ⟨h3, by rw [h4, h2, List.append_assoc]; rfl, ?_⟩
      have hi := (swOk_parts (mvS_some e).1).2.1
      rw [h.len] at hi
      show (inR i 0 ((a.length : Int) - 2) && allIn p 0 ((a.length : Int) - 2)) = true
      rw [hi, h5]; rfl
theorem MvInv.start {a : List In} (h : okCode a = true) : MvInv a (a, []) := ⟨h, rfl, Nat.zero_le _⟩

def folR (es : List In) (path : List Int) : Option Mv := if blkOk es = true then folS (es, []) path else none
def folC (es : List In) (path : List Int) : List In := ((folR es path).map Prod.fst).getD []
def folB (es : List In) (path : List Int) : Bool := (folR es path).isSome
theorem folR_no {es : List In} (path : List Int) (h : blkOk es = false) : folR es path = none := by unfold folR; rw [h]; rfl
theorem folR_yes {es : List In} (path : List Int) (h : blkOk es = true) : folR es path = folS (es, []) path := by unfold folR; rw [if_pos h]
theorem fol_none {es : List In} {path : List Int} (h : folR es path = none) : folC es path = [] ∧ folB es path = false := by unfold folC folB; rw [h]; exact ⟨rfl, rfl⟩
theorem fol_some {es : List In} {path : List Int} {s : Mv} (h : folR es path = some s) : folC es path = s.1 ∧ folB es path = true := by unfold folC folB; rw [h]; exact ⟨rfl, rfl⟩
theorem folR_long {es : List In} {path : List Int} (h : 100 < path.length) : folR es path = none := by
  cases hb : blkOk es
  · exact folR_no path hb
  · rw [folR_yes path hb]
    cases e : folS (es, []) path with
    | none => rfl
    | some s =>
      obtain ⟨h1, h2, _⟩ := MvInv.fol path (MvInv.start (blkOk_parts hb).2) e
      have h3 := h1.most
      rw [h2] at h3
      simp at h3; omega
theorem folR_far {es : List In} {path : List Int} (h : allIn path 0 ((es.length : Int) - 2) = false) : folR es path = none := by
  cases hb : blkOk es
  · exact folR_no path hb
  · rw [folR_yes path hb]
    cases e : folS (es, []) path with
    | none => rfl
    | some s =>
      obtain ⟨_, _, h3⟩ := MvInv.fol path (MvInv.start (blkOk_parts hb).2) e
      rw [h] at h3; cases h3
theorem folC_len (es : List In) (path : List Int) : (folC es path).length ≤ 1048576 := by
  cases e : folR es path with
  | none => rw [(fol_none e).1]; simp
  | some s =>
    rw [(fol_some e).1]
    have hb : blkOk es = true := by
      cases hb : blkOk es
      · rw [folR_no path hb] at e; cases e
      · rfl
    rw [folR_yes path hb] at e
    have h1 := (MvInv.fol path (MvInv.start (blkOk_parts hb).2) e).1
    have := okCode_len h1.ok
    omega

/-- An instruction's first place. -/
def sameI (x y : In) : Bool := x.op.toList == y.op.toList && x.d == y.d && x.a == y.a && x.b == y.b && x.m == y.m
theorem sameI_comm (x y : In) : sameI x y = sameI y x := by
  unfold sameI
  rw [Bool.eq_iff_iff]
  simp only [Bool.and_eq_true, beq_iff_eq]
  constructor <;> rintro ⟨⟨⟨⟨h1, h2⟩, h3⟩, h4⟩, h5⟩ <;> exact ⟨⟨⟨⟨h1.symm, h2.symm⟩, h3.symm⟩, h4.symm⟩, h5.symm⟩
def iidx (xs : List In) (y : In) : Int := firstI (fun k => sameI (xs.getD k zeroIn) y) xs.length
/-- The swaps that bring the instruction at k + n to k. -/
def mvDn (k : Nat) : Nat → Mv → Option Mv
  | 0, st => some st
  | n + 1, st => (mvS st ((k + n : Nat) : Int)).bind (mvDn k n)
def spStep (st : Mv) (k : Nat) (x : In) : Option Mv := if iidx (st.1.drop k) x < 0 then none else mvDn k (iidx (st.1.drop k) x).toNat st
def spTo (a b : List In) : Nat → Option Mv
  | 0 => some (a, [])
  | k + 1 => (spTo a b k).bind fun s => spStep s k (b.getD k zeroIn)
theorem spTo_no {a b : List In} {k : Nat} (h : spTo a b k = none) : ∀ m, k ≤ m → spTo a b m = none := by
  intro m hm
  obtain ⟨d, rfl⟩ := Nat.exists_eq_add_of_le hm
  clear hm
  induction d with
  | zero => exact h
  | succ d ih => show (spTo a b (k + d)).bind _ = none; rw [ih]; rfl
theorem MvInv.dn {a : List In} (k : Nat) : ∀ (n : Nat) {st s : Mv}, MvInv a st → mvDn k n st = some s → MvInv a s
  | 0, st, s, h, hm => by injection hm with hm; subst hm; exact h
  | n + 1, st, s, h, hm => by
    have hm' : (mvS st ((k + n : Nat) : Int)).bind (mvDn k n) = some s := hm
    cases e : mvS st ((k + n : Nat) : Int) with
    | none => rw [e] at hm'; cases hm'
    | some s1 => rw [e] at hm'; exact MvInv.dn k n (h.step e).1 hm'
theorem MvInv.to {a b : List In} (ha : okCode a = true) : ∀ (k : Nat) {s : Mv}, spTo a b k = some s → MvInv a s
  | 0, s, h => by injection h with h; subst h; exact .start ha
  | k + 1, s, h => by
    have h' : (spTo a b k).bind (fun s => spStep s k (b.getD k zeroIn)) = some s := h
    cases e : spTo a b k with
    | none => rw [e] at h'; cases h'
    | some s1 =>
      rw [e] at h'
      have h2 : spStep s1 k (b.getD k zeroIn) = some s := h'
      unfold spStep at h2
      split at h2
      · cases h2
      · exact (MvInv.to ha k e).dn k _ h2
def spOk0 (a b : List In) : Bool := blkOk a && blkOk b && decide (a.length = b.length)
def spR (a b : List In) : Option Mv := if spOk0 a b = true then spTo a b b.length else none
def spP (a b : List In) : List Int := ((spR a b).map Prod.snd).getD []
def spB (a b : List In) : Bool := (spR a b).isSome
theorem sp_none {a b : List In} (h : spR a b = none) : spP a b = [] ∧ spB a b = false := by unfold spP spB; rw [h]; exact ⟨rfl, rfl⟩
theorem sp_some {a b : List In} {s : Mv} (h : spR a b = some s) : spP a b = s.2 ∧ spB a b = true := by unfold spP spB; rw [h]; exact ⟨rfl, rfl⟩
theorem spP_len (a b : List In) : (spP a b).length ≤ 1048576 := by
  cases e : spR a b with
  | none => rw [(sp_none e).1]; simp
  | some s =>
    rw [(sp_some e).1]
    unfold spR at e
    split at e
    · rename_i h
      unfold spOk0 at h
      simp only [Bool.and_eq_true] at h
      have := (MvInv.to (blkOk_parts h.1.1).2 _ e).most
      omega
    · cases e
end Go.Proofs.Ytmhdijklindipaa

/- Instructions compared by '==', and slices.Index of instructions. -/
namespace Go.Proofs.Ytmhdijklindipaa
open Go.RowKit
set_option linter.unusedVariables false
set_option maxRecDepth 100000
theorem in_guard : Try.prog.eqGuardType Try.prog.depth 56 = false := by kernel_rfl
theorem equalIn_in (op op' : ByteArray) (d a b m d' a' b' m' : Int) (w : World) : (Op.equalIn 10000 56 (.agg #[.string op, .int .i64 d, .int .i64 a, .int .i64 b, .int .i64 m]) (.agg #[.string op', .int .i64 d', .int .i64 a', .int .i64 b', .int .i64 m'])).run Try.prog w = .ok (sameI ⟨op, d, a, b, m⟩ ⟨op', d', a', b', m'⟩) w := by
  have u3 := Try.underlying3
  have a3 := Try.isAgg3
  have z3 := Try.sizeOf3
  have u9 := Try.underlying9
  have a9 := Try.isAgg9
  have z9 := Try.sizeOf9
  have hS : Try.prog.underlying 56 = some (.struct (Try.prog.fieldsOf 56)) := by kernel_rfl
  have hp : Try.prog.stoodInHeld 56 = false := by kernel_rfl
  rw [show (10000 : Nat) = 9999 + 1 from rfl, run_equalIn_agg w 9999 56 _ _ hS hp]
  simp only [Program.fieldsOf, Try.underlying56]
  unfold sameI
  go_simp
  by_cases h0 : op.toList = op'.toList <;> by_cases h1 : d = d' <;> by_cases h2 : a = a' <;> by_cases h3 : b = b' <;> by_cases h4 : m = m' <;> simp [h0, h1, h2, h3, h4]
theorem XB.new (w : World) (x : In) : XB (w.alloc (.cells #[.string x.op, .int .i64 x.d, .int .i64 x.a, .int .i64 x.b, .int .i64 x.m] 56)) w.heap.size x := heap_alloc_new w _

end Go.Proofs.Ytmhdijklindipaa

/- Slices of slices of ints. -/
namespace Go.Proofs.Ytmhdijklindipaa
open Go.RowKit
set_option linter.unusedVariables false

def encV (v : Value) : List Value := [v]
/-- A slice of slices of ints, read. -/
def XS (w : World) (L B : Nat) (A : Option Addr) (xss : List (List Int)) : Prop :=
  ∃ vs : List Value, vs.length = xss.length ∧ RS encV 1 w L B A vs ∧ ∀ i (h : i < vs.length) (h' : i < xss.length), ∃ Ai ci, vs[i] = .slice Ai (xss[i]).length ci ∧ IS w L B Ai xss[i]
theorem XS.below {w w' : World} {L B C : Nat} {A : Option Addr} {xss : List (List Int)} (h : XS w L B A xss) (hb : Below C w w') (hC : B ≤ C) : XS w' L B A xss := by
  obtain ⟨vs, hl, hr, hi⟩ := h
  exact ⟨vs, hl, hr.below hb hC, fun i h h' => by obtain ⟨Ai, ci, e, hx⟩ := hi i h h'; exact ⟨Ai, ci, e, hx.below hb hC⟩⟩
theorem XS.at {w : World} {L B : Nat} {A : Option Addr} {xss : List (List Int)} (h : XS w L B A xss) {i : Nat} (hi : i < xss.length) :
    ∃ b o Ai ci, A = some ⟨b, o, none⟩ ∧ b < B ∧ w.cell? ⟨b, o + i, none⟩ = some (.slice Ai (xss[i]).length ci) ∧ IS w L B Ai xss[i] := by
  obtain ⟨vs, hl, hr, hx⟩ := h
  obtain ⟨b, o, e, ⟨_, hb⟩, hc⟩ := hr (by omega)
  obtain ⟨Ai, ci, e2, hI⟩ := hx i (by omega) hi
  have h1 := hc i (by omega) 0 vs[i] rfl
  rw [e2] at h1
  exact ⟨b, o, Ai, ci, e, hb, by simpa using h1, hI⟩

end Go.Proofs.Ytmhdijklindipaa

/- The laws' comparisons, of what is the same. -/
namespace Go.Proofs.Ytmhdijklindipaa
open Go.RowKit
set_option linter.unusedVariables false
set_option maxRecDepth 100000

/-- True, and nothing but draws. -/
def YesD (w : World) (e : Ending) (w' : World) : Prop := e = .returned (.bool true) ∧ ∃ n, w' = w.drewN n
theorem below_drewD {B : Nat} {a w : World} (h : Below B a w) (n : Nat) : Below B a (w.drewN n) := ⟨h.os, h.tape, h.output, h.size, h.block⟩
set_option maxHeartbeats 4000000 in
theorem big_no (A A' : Option Addr) (n n' c c' : Nat) (w : World) (h : n ≤ 1048576) (h' : n' ≤ 1048576) (hb : n + n' ≤ 1048576) :
    Calls Try.prog 13 #[.slice A n c, .slice A' n' c'] w fun e w' => e = .returned (.bool false) ∧ w = w' := by
  have h1 : ¬ (1048576 : Int) < (n : Int) := by omega
  have h2 : ¬ (1048576 : Int) - (n : Int) < (n' : Int) := by omega
  have hw1 : IntKind.i64.wrap (1048576 - (n : Int)) = 1048576 - (n : Int) := IntWalk.i64_in _ (by omega)
  go_enter Try.func13, Try.ntmps13
  go_wp2
  go_ret
  exact ⟨by first | rfl | simp, rfl⟩
set_option maxHeartbeats 4000000 in
theorem big_yes (A A' : Option Addr) (n n' c c' : Nat) (w : World) (h : n ≤ 9223372036854775807) (h' : n' ≤ 9223372036854775807) (hb : ¬ n + n' ≤ 1048576) :
    Calls Try.prog 13 #[.slice A n c, .slice A' n' c'] w fun e w' => e = .returned (.bool true) ∧ w = w' := by
  by_cases h1 : (1048576 : Int) < (n : Int)
  · go_enter Try.func13, Try.ntmps13
    go_wp2
    go_ret
    exact ⟨by first | rfl | simp, rfl⟩
  · have h2 : (1048576 : Int) - (n : Int) < (n' : Int) := by omega
    have hw1 : IntKind.i64.wrap (1048576 - (n : Int)) = 1048576 - (n : Int) := IntWalk.i64_in _ (by omega)
    go_enter Try.func13, Try.ntmps13
    go_wp2
    go_ret
    exact ⟨by first | rfl | simp, rfl⟩
set_option maxHeartbeats 4000000 in
theorem pSame_eq (L B L' B' : Nat) (A A' : Option Addr) (m m' c c' : Nat) (xs : List Int) (w : World) (hm : m = xs.length) (hm' : m' = xs.length) (hl : xs.length ≤ 1048576) (hx : IS w L B A xs) (hx' : IS w L' B' A' xs) :
    Calls Try.prog 18 #[.slice A m c, .slice A' m' c'] w (YesD w) := by
  subst hm hm'
  have hX := Lib.hid hx
  have hY := Lib.hid hx'
  clear hx hx'
  go_enter Try.func18, Try.ntmps18
  go_wp2
  go_loopw [13] (fun i wr => ∃ k : Nat, k ≤ xs.length ∧ i = .int .i64 k ∧ ∃ n, wr = w.drewN n) (fun i _ => xs.length - (intOf i).toNat)
  case atStart => exact ⟨0, Nat.zero_le _, rfl, 0, rfl⟩
  case round =>
    obtain ⟨k, hk, rfl, n, rfl⟩ := hrel
    by_cases hlt : k < xs.length
    · obtain ⟨b, o, rfl, _, hc⟩ := hX.out (by omega)
      obtain ⟨b', o', rfl, _, hc'⟩ := hY.out (by omega)
      have c1 := hc k hlt
      have c2 := hc' k hlt
      have k0 : (0 : Int) ≤ (k : Int) := by omega
      have k1 : (k : Int) < (xs.length : Int) := by omega
      clear hc hc'
      generalize xs[k] = x at *
      go_wp2_with (fail)
      go_quiet (fail)
      all_goals go_wp2
      all_goals go_roundw
      case rel => exact ⟨k + 1, by omega, by go_num, _, (by first | rfl | exact World.drewN_drewN _ _ _)⟩
      case measure => simp [intOf]; omega
    · obtain rfl : k = xs.length := by omega
      go_wp2
      go_ret
      exact ⟨rfl, _, rfl⟩
set_option maxHeartbeats 4000000 in
theorem pSameCode_eq (L B L' B' : Nat) (A A' : Option Addr) (m m' c c' : Nat) (xs : List In) (w : World) (hm : m = xs.length) (hm' : m' = xs.length) (hl : xs.length ≤ 1048576) (hx : RS In.enc 5 w L B A xs) (hx' : RS In.enc 5 w L' B' A' xs) :
    Calls Try.prog 30 #[.slice A m c, .slice A' m' c'] w (YesD w) := by
  subst hm hm'
  have hX := Lib.hid hx
  have hY := Lib.hid hx'
  have hgd := in_guard
  clear hx hx'
  go_enter Try.func30, Try.ntmps30
  go_wp2
  go_loopw [13] (fun i wr => ∃ k : Nat, k ≤ xs.length ∧ i = .int .i64 k ∧ ∃ n, wr = w.drewN n) (fun i _ => xs.length - (intOf i).toNat)
  case atStart => exact ⟨0, Nat.zero_le _, rfl, 0, rfl⟩
  case round =>
    obtain ⟨k, hk, rfl, n, rfl⟩ := hrel
    by_cases hlt : k < xs.length
    · obtain ⟨b, o, rfl, _, hc⟩ := In.cells hX.out (by omega)
      obtain ⟨b', o', rfl, _, hc'⟩ := In.cells hY.out (by omega)
      obtain ⟨c1, c2, c3, c4, c5⟩ := hc k hlt
      obtain ⟨d1, d2, d3, d4, d5⟩ := hc' k hlt
      have k0 : (0 : Int) ≤ (k : Int) := by omega
      have k1 : (k : Int) < (xs.length : Int) := by omega
      clear hc hc'
      generalize xs[k] = z at *
      obtain ⟨op, d, a, bb, m⟩ := z
      dsimp only at *
      have hEq : ∀ W : World, (Op.equalIn 10000 56 (.agg #[.string op, .int .i64 d, .int .i64 a, .int .i64 bb, .int .i64 m]) (.agg #[.string op, .int .i64 d, .int .i64 a, .int .i64 bb, .int .i64 m])).run Try.prog W = .ok true W := fun W => by
        have h := equalIn_in op op d a bb m d a bb m W
        have hs : sameI ⟨op, d, a, bb, m⟩ ⟨op, d, a, bb, m⟩ = true := by simp [sameI]
        rw [hs] at h; exact h
      go_wp2_with (fail)
      go_quiet (fail)
      all_goals go_wp2
      all_goals go_roundw
      case rel => exact ⟨k + 1, by omega, by go_num, _, (by first | rfl | exact World.drewN_drewN _ _ _)⟩
      case measure => simp [intOf]; omega
    · obtain rfl : k = xs.length := by omega
      go_wp2
      go_ret
      exact ⟨rfl, _, rfl⟩
end Go.Proofs.Ytmhdijklindipaa

/- Rows that are the same; facts that are carried from world to world. -/
namespace Go.Proofs.Ytmhdijklindipaa
open Go.RowKit
set_option linter.unusedVariables false
set_option maxRecDepth 100000

theorem XS.upD {W W' : World} {L : Nat} {A : Option Addr} {xss : List (List Int)} (h : XS W L W.heap.size A xss) (hb : Below W.heap.size W W') : XS W' L W'.heap.size A xss := by
  obtain ⟨vs, hl, hr, hi⟩ := h.below hb (Nat.le_refl _)
  have hB := hb.size
  exact ⟨vs, hl, hr.more (Nat.le_refl _) hB, fun i h1 h2 => by
    obtain ⟨Ai, ci, e, hx⟩ := hi i h1 h2
    exact ⟨Ai, ci, e, fun h0 => by obtain ⟨b, o, e2, ⟨hb1, hb2⟩, hc⟩ := hx h0; exact ⟨b, o, e2, ⟨hb1, by omega⟩, hc⟩⟩⟩
theorem XS.lowD {w : World} {L B : Nat} {A : Option Addr} {xss : List (List Int)} (h : XS w L B A xss) : XS w 0 B A xss := by
  obtain ⟨vs, hl, hr, hi⟩ := h
  exact ⟨vs, hl, hr.more (Nat.zero_le _) (Nat.le_refl _), fun i h1 h2 => by
    obtain ⟨Ai, ci, e, hx⟩ := hi i h1 h2
    exact ⟨Ai, ci, e, fun h0 => by obtain ⟨b, o, e2, ⟨hb1, hb2⟩, hc⟩ := hx h0; exact ⟨b, o, e2, ⟨Nat.zero_le _, hb2⟩, hc⟩⟩⟩
theorem RS.upD {W W' : World} {L : Nat} {A : Option Addr} {xs : List In} (h : RS In.enc 5 W L W.heap.size A xs) (hb : Below W.heap.size W W') : RS In.enc 5 W' L W'.heap.size A xs := (h.below hb (Nat.le_refl _)).more (Nat.le_refl _) hb.size
theorem IS.upD {W W' : World} {L : Nat} {A : Option Addr} {xs : List Int} (h : IS W L W.heap.size A xs) (hb : Below W.heap.size W W') : IS W' L W'.heap.size A xs := (h.below hb (Nat.le_refl _)).more (Nat.le_refl _) hb.size
theorem yes_below {W W' : World} {n : Nat} (h : W' = W.drewN n) : Below W.heap.size W W' := by rw [h]; exact below_drewD (Below.refl _ _) n
theorem IS.nilD (w : World) (L B : Nat) (A : Option Addr) : IS w L B A [] := fun h => absurd h (by simp)
set_option maxHeartbeats 4000000 in
theorem pSameRows_eq (L B L' B' : Nat) (A A' : Option Addr) (m m' c c' : Nat) (xss : List (List Int)) (w : World) (hm : m = xss.length) (hm' : m' = xss.length) (hl : xss.length ≤ 1048576) (hls : ∀ xs ∈ xss, xs.length ≤ 1048576) (hx : XS w L B A xss) (hx' : XS w L' B' A' xss) :
    Calls Try.prog 36 #[.slice A m c, .slice A' m' c'] w (YesD w) := by
  subst hm hm'
  have hX := Lib.hid hx
  have hY := Lib.hid hx'
  have hL := Lib.hid hls
  clear hx hx' hls
  go_enter Try.func36, Try.ntmps36
  go_wp2
  go_loopw [13] (fun i wr => ∃ k : Nat, k ≤ xss.length ∧ i = .int .i64 k ∧ ∃ n, wr = w.drewN n) (fun i _ => xss.length - (intOf i).toNat)
  case atStart => exact ⟨0, Nat.zero_le _, rfl, 0, rfl⟩
  case round =>
    obtain ⟨k, hk, rfl, n, hn⟩ := hrel
    have hN := Lib.hid hn
    have hXr : XS wr L B A xss := by rw [hn]; exact hX.out
    have hYr : XS wr L' B' A' xss := by rw [hn]; exact hY.out
    clear hn
    by_cases hlt : k < xss.length
    · obtain ⟨b, o, Ai, ci, rfl, _, c1, hI⟩ := hXr.at hlt
      obtain ⟨b', o', Ai', ci', rfl, _, d1, hI'⟩ := hYr.at hlt
      have k0 : (0 : Int) ≤ (k : Int) := by omega
      have k1 : (k : Int) < (xss.length : Int) := by omega
      have hS := Lib.hid fun (q : Nat) => pSame_eq L B L' B' Ai Ai' xss[k].length xss[k].length ci ci' xss[k] (wr.drewN q) rfl rfl (hL.out _ (List.getElem_mem _)) hI hI'
      clear hI hI' hXr hYr
      generalize xss[k].length = m at *
      go_wp2_with (fail)
      go_quiet ((go_at_call 18; exact Calls.quiet_of (hS.out _)))
      all_goals go_wp2
      all_goals go_roundw
      case rel => exact ⟨k + 1, by omega, by go_num, n + nq, by rw [hN.out]; exact World.drewN_drewN _ _ _⟩
      case measure => simp [intOf]; omega
    · obtain rfl : k = xss.length := by omega
      clear hXr hYr
      go_wp2
      go_ret
      exact ⟨rfl, n, hN.out⟩
end Go.Proofs.Ytmhdijklindipaa
