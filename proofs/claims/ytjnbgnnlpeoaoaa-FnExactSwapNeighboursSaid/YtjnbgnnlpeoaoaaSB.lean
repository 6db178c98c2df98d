import Derived.Test.YtjnbgnnlpeoaoaaSA
import Derived.Test.YtjnbgnnlpeoaoaaDA
import Derived.Deep.RegionLaw
import Derived.WalkKit
import Derived.WalkSpells
import Derived.WalkLawsBesides
import Derived.Deep.RegionHeld3
import Derived.Lib.Hide
namespace Go.Proofs.Ytjnbgnnlpeoaoaa
open Go.RowKit
set_option linter.unusedVariables false
set_option maxRecDepth 100000

theorem l1In_lit (n lo hi : Int) (r : Bool) (h : inR n lo hi = r) (w : World) : Calls Try.prog 111 #[.int .i64 n, .int .i64 lo, .int .i64 hi] w fun e w' => e = .returned (.bool r) ∧ w = w' := by
  subst h; exact l1In_r n lo hi w
theorem OK.some' {w : World} {lo hi : Nat} {v : Value} {xs : List In} {t : TypeId} (h : OK In.enc 5 t w lo hi v xs) (h0 : 0 < xs.length) : ∃ g cap rest, v = .slice (some ⟨g, 0, none⟩) xs.length cap ∧ lo ≤ g ∧ g < hi ∧ xs.length ≤ cap ∧ cap ≤ maxLen ∧ CB t w g (xs.flatMap In.enc ++ rest) ∧ (xs.flatMap In.enc ++ rest).length = cap * 5 := by
  rcases OK.open h with ⟨_, h1⟩ | ⟨g, cap, h1, h2, h3, h4, h5, rest, h6, h7⟩
  · omega
  · exact ⟨g, cap, rest, h1, h2, h3, h4, h5, h6, h7⟩
theorem code_two {w : World} {L B b o n : Nat} {es : List In} {x y : In} (h : RS In.enc 5 w L B (some ⟨b, o, none⟩) es) (hn : n + 1 < es.length) (hx : es[n] = x) (hy : es[n + 1] = y) :
    (w.cell? ⟨b, o + n * 5, none⟩ = some (.string x.op) ∧ w.cell? ⟨b, o + n * 5 + 1, none⟩ = some (.int .i64 x.d) ∧ w.cell? ⟨b, o + n * 5 + 2, none⟩ = some (.int .i64 x.a) ∧ w.cell? ⟨b, o + n * 5 + 3, none⟩ = some (.int .i64 x.b) ∧ w.cell? ⟨b, o + n * 5 + 4, none⟩ = some (.int .i64 x.m)) ∧
    (w.cell? ⟨b, o + (n + 1) * 5, none⟩ = some (.string y.op) ∧ w.cell? ⟨b, o + (n + 1) * 5 + 1, none⟩ = some (.int .i64 y.d) ∧ w.cell? ⟨b, o + (n + 1) * 5 + 2, none⟩ = some (.int .i64 y.a) ∧ w.cell? ⟨b, o + (n + 1) * 5 + 3, none⟩ = some (.int .i64 y.b) ∧ w.cell? ⟨b, o + (n + 1) * 5 + 4, none⟩ = some (.int .i64 y.m)) := by
  subst hx; subst hy
  obtain ⟨b', o', e, _, hc⟩ := In.cells h (by omega)
  injection e with e; injection e with e1 e2 _; subst e1; subst e2
  exact ⟨hc n (by omega), hc (n + 1) hn⟩
set_option maxHeartbeats 16000000 in
theorem sSwap_any (L B : Nat) (A : Option Addr) (c : Nat) (es : List In) (i : Int) (w : World) (hl : es.length ≤ 1048576) (hes : RS In.enc 5 w L B A es) (hB : B ≤ w.heap.size) :
    Calls Try.prog 62 #[.slice A es.length c, .int .i64 i] w (ResSwapNeighbours (swapR es i) (swOk es i) w) := by
  have H := Lib.hid (cdCode_any L B A c es w.drew hl (hes.below (Below.refl w.heap.size w).drew hB) hB)
  have hE := Lib.hid hes
  have hBB := Lib.hid hB
  have hB0 := Lib.hid ((Below.refl w.heap.size w).drew)
  clear hes hB
  cases hg : okCode es
  · have hK : Hid (swOk es i = false) := by simp [Hid, swOk, hg]
    have hR := Lib.hid (swapR_no hK.out)
    rw [hg] at H
    clear hg
    go_enter Try.func62, Try.ntmps62
    go_wp2_with (fail)
    refine wp_region_any (by kernel_rfl) ?_
    try (change wpAny _ _ _ _ _ _ _ (World.drew _))
    refine wpAny_take (i := 0) (v := ?_) rfl (by kernel_rfl) (by kernel_rfl) (by kernel_rfl) (fun _ _ _ h => h) (Or.inl ⟨by rfl, ?_⟩) ?_
    rotate_left 1
    · (intro w; go_simp; try with_reducible rfl)
    try simp only [Act.put, List.setIfInBounds_toArray, List.set_cons_zero, List.set_cons_succ, List.getElem_toArray, List.getElem_cons_zero, List.getElem_cons_succ]
    refine wpAny_ready (rs := [1]) (by kernel_rfl) (by simp) ?_
    refine AllReady.cons rfl (fun K hK => ?_) (AllReady.nil)
    try simp only [List.setIfInBounds_toArray, List.set_cons_zero, List.set_cons_succ, List.getElem_toArray, List.getElem_cons_zero, List.getElem_cons_succ]
    (go_simp; go_at_call 72; (with_reducible refine H.out.mono ?_); rintro e w2 ⟨rfl, hb2⟩)
    try go_simp
    try (refine hK _ _ ?_; clear hK K)
    refine wpAny_take (i := 2) (v := ?_) rfl (by kernel_rfl) (by kernel_rfl) (by kernel_rfl) (fun _ _ _ h => h) (Or.inl ⟨by rfl, ?_⟩) ?_
    rotate_left 1
    · (intro w; go_simp; try with_reducible rfl)
    try simp only [Act.put, List.setIfInBounds_toArray, List.set_cons_zero, List.set_cons_succ, List.getElem_toArray, List.getElem_cons_zero, List.getElem_cons_succ]
    refine wpAny_take (i := 3) (v := ?_) rfl (by kernel_rfl) (by kernel_rfl) (by kernel_rfl) (fun _ _ _ h => h) (Or.inl ⟨by rfl, ?_⟩) ?_
    rotate_left 1
    · (intro w; go_simp; try with_reducible rfl)
    try simp only [Act.put, List.setIfInBounds_toArray, List.set_cons_zero, List.set_cons_succ, List.getElem_toArray, List.getElem_cons_zero, List.getElem_cons_succ]
    refine wpAny_take (i := 4) (v := undef) rfl (by kernel_rfl) (by kernel_rfl) (by kernel_rfl) (fun _ _ _ h => h) (Or.inr ⟨by rfl, rfl⟩) ?_
    try simp only [Act.put, List.setIfInBounds_toArray, List.set_cons_zero, List.set_cons_succ, List.getElem_toArray, List.getElem_cons_zero, List.getElem_cons_succ]
    refine wpAny_take (i := 5) (v := undef) rfl (by kernel_rfl) (by kernel_rfl) (by kernel_rfl) (fun _ _ _ h => h) (Or.inr ⟨by rfl, rfl⟩) ?_
    try simp only [Act.put, List.setIfInBounds_toArray, List.set_cons_zero, List.set_cons_succ, List.getElem_toArray, List.getElem_cons_zero, List.getElem_cons_succ]
    refine wpAny_take (i := 6) (v := undef) rfl (by kernel_rfl) (by kernel_rfl) (by kernel_rfl) (fun _ _ _ h => h) (Or.inr ⟨by rfl, rfl⟩) ?_
    try simp only [Act.put, List.setIfInBounds_toArray, List.set_cons_zero, List.set_cons_succ, List.getElem_toArray, List.getElem_cons_zero, List.getElem_cons_succ]
    refine wpAny_take (i := 7) (v := undef) rfl (by kernel_rfl) (by kernel_rfl) (by kernel_rfl) (fun _ _ _ h => h) (Or.inr ⟨by rfl, rfl⟩) ?_
    try simp only [Act.put, List.setIfInBounds_toArray, List.set_cons_zero, List.set_cons_succ, List.getElem_toArray, List.getElem_cons_zero, List.getElem_cons_succ]
    refine wpAny_take (i := 8) (v := undef) rfl (by kernel_rfl) (by kernel_rfl) (by kernel_rfl) (fun _ _ _ h => h) (Or.inr ⟨by rfl, rfl⟩) ?_
    try simp only [Act.put, List.setIfInBounds_toArray, List.set_cons_zero, List.set_cons_succ, List.getElem_toArray, List.getElem_cons_zero, List.getElem_cons_succ]
    refine wpAny_take (i := 9) (v := undef) rfl (by kernel_rfl) (by kernel_rfl) (by kernel_rfl) (fun _ _ _ h => h) (Or.inr ⟨by rfl, rfl⟩) ?_
    try simp only [Act.put, List.setIfInBounds_toArray, List.set_cons_zero, List.set_cons_succ, List.getElem_toArray, List.getElem_cons_zero, List.getElem_cons_succ]
    refine wpAny_take (i := 10) (v := ?_) rfl (by kernel_rfl) (by kernel_rfl) (by kernel_rfl) (fun _ _ _ h => h) (Or.inl ⟨by rfl, ?_⟩) ?_
    rotate_left 1
    · (intro w; go_simp; try with_reducible rfl)
    try simp only [Act.put, List.setIfInBounds_toArray, List.set_cons_zero, List.set_cons_succ, List.getElem_toArray, List.getElem_cons_zero, List.getElem_cons_succ]
    refine wpAny_take (i := 11) (v := ?_) rfl (by kernel_rfl) (by kernel_rfl) (by kernel_rfl) (fun _ _ _ h => h) (Or.inl ⟨by rfl, ?_⟩) ?_
    rotate_left 1
    · (intro w; go_simp; try with_reducible rfl)
    try simp only [Act.put, List.setIfInBounds_toArray, List.set_cons_zero, List.set_cons_succ, List.getElem_toArray, List.getElem_cons_zero, List.getElem_cons_succ]
    refine wpAny_take (i := 12) (v := undef) rfl (by kernel_rfl) (by kernel_rfl) (by kernel_rfl) (fun _ _ _ h => h) (Or.inr ⟨by rfl, rfl⟩) ?_
    try simp only [Act.put, List.setIfInBounds_toArray, List.set_cons_zero, List.set_cons_succ, List.getElem_toArray, List.getElem_cons_zero, List.getElem_cons_succ]
    refine wpAny_take (i := 13) (v := undef) rfl (by kernel_rfl) (by kernel_rfl) (by kernel_rfl) (fun _ _ _ h => h) (Or.inr ⟨by rfl, rfl⟩) ?_
    try simp only [Act.put, List.setIfInBounds_toArray, List.set_cons_zero, List.set_cons_succ, List.getElem_toArray, List.getElem_cons_zero, List.getElem_cons_succ]
    refine wpAny_take (i := 14) (v := undef) rfl (by kernel_rfl) (by kernel_rfl) (by kernel_rfl) (fun _ _ _ h => h) (Or.inr ⟨by rfl, rfl⟩) ?_
    try simp only [Act.put, List.setIfInBounds_toArray, List.set_cons_zero, List.set_cons_succ, List.getElem_toArray, List.getElem_cons_zero, List.getElem_cons_succ]
    refine wpAny_take (i := 15) (v := undef) rfl (by kernel_rfl) (by kernel_rfl) (by kernel_rfl) (fun _ _ _ h => h) (Or.inr ⟨by rfl, rfl⟩) ?_
    try simp only [Act.put, List.setIfInBounds_toArray, List.set_cons_zero, List.set_cons_succ, List.getElem_toArray, List.getElem_cons_zero, List.getElem_cons_succ]
    refine wpAny_take (i := 16) (v := undef) rfl (by kernel_rfl) (by kernel_rfl) (by kernel_rfl) (fun _ _ _ h => h) (Or.inr ⟨by rfl, rfl⟩) ?_
    try simp only [Act.put, List.setIfInBounds_toArray, List.set_cons_zero, List.set_cons_succ, List.getElem_toArray, List.getElem_cons_zero, List.getElem_cons_succ]
    refine wpAny_take (i := 17) (v := undef) rfl (by kernel_rfl) (by kernel_rfl) (by kernel_rfl) (fun _ _ _ h => h) (Or.inr ⟨by rfl, rfl⟩) ?_
    try simp only [Act.put, List.setIfInBounds_toArray, List.set_cons_zero, List.set_cons_succ, List.getElem_toArray, List.getElem_cons_zero, List.getElem_cons_succ]
    refine wpAny_take (i := 18) (v := undef) rfl (by kernel_rfl) (by kernel_rfl) (by kernel_rfl) (fun _ _ _ h => h) (Or.inr ⟨by rfl, rfl⟩) ?_
    try simp only [Act.put, List.setIfInBounds_toArray, List.set_cons_zero, List.set_cons_succ, List.getElem_toArray, List.getElem_cons_zero, List.getElem_cons_succ]
    refine wpAny_take (i := 19) (v := undef) rfl (by kernel_rfl) (by kernel_rfl) (by kernel_rfl) (fun _ _ _ h => h) (Or.inr ⟨by rfl, rfl⟩) ?_
    try simp only [Act.put, List.setIfInBounds_toArray, List.set_cons_zero, List.set_cons_succ, List.getElem_toArray, List.getElem_cons_zero, List.getElem_cons_succ]
    refine wpAny_take (i := 20) (v := undef) rfl (by kernel_rfl) (by kernel_rfl) (by kernel_rfl) (fun _ _ _ h => h) (Or.inr ⟨by rfl, rfl⟩) ?_
    try simp only [Act.put, List.setIfInBounds_toArray, List.set_cons_zero, List.set_cons_succ, List.getElem_toArray, List.getElem_cons_zero, List.getElem_cons_succ]
    refine wpAny_take (i := 21) (v := undef) rfl (by kernel_rfl) (by kernel_rfl) (by kernel_rfl) (fun _ _ _ h => h) (Or.inr ⟨by rfl, rfl⟩) ?_
    try simp only [Act.put, List.setIfInBounds_toArray, List.set_cons_zero, List.set_cons_succ, List.getElem_toArray, List.getElem_cons_zero, List.getElem_cons_succ]
    refine wpAny_take (i := 22) (v := undef) rfl (by kernel_rfl) (by kernel_rfl) (by kernel_rfl) (fun _ _ _ h => h) (Or.inr ⟨by rfl, rfl⟩) ?_
    try simp only [Act.put, List.setIfInBounds_toArray, List.set_cons_zero, List.set_cons_succ, List.getElem_toArray, List.getElem_cons_zero, List.getElem_cons_succ]
    refine wpAny_take (i := 23) (v := ?_) rfl (by kernel_rfl) (by kernel_rfl) (by kernel_rfl) (fun _ _ _ h => h) (Or.inl ⟨by rfl, ?_⟩) ?_
    rotate_left 1
    · (intro w; go_simp; try with_reducible rfl)
    try simp only [Act.put, List.setIfInBounds_toArray, List.set_cons_zero, List.set_cons_succ, List.getElem_toArray, List.getElem_cons_zero, List.getElem_cons_succ]
    refine wpAny_done (by kernel_rfl) ?_ _
    rotate_left 1
    all_goals
      go_wp2
      go_ret2
      rw [hR.out, hK.out]; exact ⟨none, 0, rfl, OK.nil _ _ _ _, hB0.out.trans hb2⟩
  have hG := Lib.hid hg
  have hlen := Lib.hid (okCode_len hg)
  have hall := Lib.hid (okCode_all hg)
  rw [hg] at H
  clear hg
  cases hr : inR i 0 ((es.length : Int) - 2)
  · have hK : Hid (swOk es i = false) := by simp [Hid, swOk, hr]
    have hR := Lib.hid (swapR_no hK.out)
    have hX := Lib.hid (l1In_lit _ _ _ _ hr)
    have hwr : IntKind.i64.wrap ((es.length : Int) - 2) = (es.length : Int) - 2 := IntWalk.i64_in _ (by omega)
    clear hr
    go_enter Try.func62, Try.ntmps62
    go_wp2_with (fail)
    refine wp_region_any (by kernel_rfl) ?_
    try (change wpAny _ _ _ _ _ _ _ (World.drew _))
    refine wpAny_take (i := 0) (v := ?_) rfl (by kernel_rfl) (by kernel_rfl) (by kernel_rfl) (fun _ _ _ h => h) (Or.inl ⟨by rfl, ?_⟩) ?_
    rotate_left 1
    · (intro w; go_simp; try with_reducible rfl)
    try simp only [Act.put, List.setIfInBounds_toArray, List.set_cons_zero, List.set_cons_succ, List.getElem_toArray, List.getElem_cons_zero, List.getElem_cons_succ]
    refine wpAny_ready (rs := [1]) (by kernel_rfl) (by simp) ?_
    refine AllReady.cons rfl (fun K hK => ?_) (AllReady.nil)
    try simp only [List.setIfInBounds_toArray, List.set_cons_zero, List.set_cons_succ, List.getElem_toArray, List.getElem_cons_zero, List.getElem_cons_succ]
    (first | (go_simp; go_at_call 72; (with_reducible refine H.out.mono ?_); rintro e w2 ⟨rfl, hb2⟩) | (go_simp; go_at_call 111; (with_reducible refine (hX.out _).mono ?_); rintro e w' ⟨rfl, rfl⟩))
    try go_simp
    try (refine hK _ _ ?_; clear hK K)
    refine wpAny_take (i := 2) (v := ?_) rfl (by kernel_rfl) (by kernel_rfl) (by kernel_rfl) (fun _ _ _ h => h) (Or.inl ⟨by rfl, ?_⟩) ?_
    rotate_left 1
    · (intro w; go_simp; try with_reducible rfl)
    try simp only [Act.put, List.setIfInBounds_toArray, List.set_cons_zero, List.set_cons_succ, List.getElem_toArray, List.getElem_cons_zero, List.getElem_cons_succ]
    refine wpAny_take (i := 3) (v := ?_) rfl (by kernel_rfl) (by kernel_rfl) (by kernel_rfl) (fun _ _ _ h => h) (Or.inl ⟨by rfl, ?_⟩) ?_
    rotate_left 1
    · (intro w; go_simp; try with_reducible rfl)
    try simp only [Act.put, List.setIfInBounds_toArray, List.set_cons_zero, List.set_cons_succ, List.getElem_toArray, List.getElem_cons_zero, List.getElem_cons_succ]
    refine wpAny_take (i := 4) (v := ?_) rfl (by kernel_rfl) (by kernel_rfl) (by kernel_rfl) (fun _ _ _ h => h) (Or.inl ⟨by rfl, ?_⟩) ?_
    rotate_left 1
    · (intro w; go_simp; try with_reducible rfl)
    try simp only [Act.put, List.setIfInBounds_toArray, List.set_cons_zero, List.set_cons_succ, List.getElem_toArray, List.getElem_cons_zero, List.getElem_cons_succ]
    refine wpAny_take (i := 5) (v := ?_) rfl (by kernel_rfl) (by kernel_rfl) (by kernel_rfl) (fun _ _ _ h => h) (Or.inl ⟨by rfl, ?_⟩) ?_
    rotate_left 1
    · (intro w; go_simp; try with_reducible rfl)
    try simp only [Act.put, List.setIfInBounds_toArray, List.set_cons_zero, List.set_cons_succ, List.getElem_toArray, List.getElem_cons_zero, List.getElem_cons_succ]
    refine wpAny_take (i := 6) (v := ?_) rfl (by kernel_rfl) (by kernel_rfl) (by kernel_rfl) (fun _ _ _ h => h) (Or.inl ⟨by rfl, ?_⟩) ?_
    rotate_left 1
    · (intro w; go_simp; try with_reducible rfl)
    try simp only [Act.put, List.setIfInBounds_toArray, List.set_cons_zero, List.set_cons_succ, List.getElem_toArray, List.getElem_cons_zero, List.getElem_cons_succ]
    refine wpAny_take (i := 7) (v := ?_) rfl (by kernel_rfl) (by kernel_rfl) (by kernel_rfl) (fun _ _ _ h => h) (Or.inl ⟨by rfl, ?_⟩) ?_
    rotate_left 1
    · (intro w; go_simp; try with_reducible rfl)
    try simp only [Act.put, List.setIfInBounds_toArray, List.set_cons_zero, List.set_cons_succ, List.getElem_toArray, List.getElem_cons_zero, List.getElem_cons_succ]
    refine wpAny_ready (rs := [8]) (by kernel_rfl) (by simp) ?_
    refine AllReady.cons rfl (fun K hK => ?_) (AllReady.nil)
    try simp only [List.setIfInBounds_toArray, List.set_cons_zero, List.set_cons_succ, List.getElem_toArray, List.getElem_cons_zero, List.getElem_cons_succ]
    (first | (go_simp; go_at_call 72; (with_reducible refine H.out.mono ?_); rintro e w2 ⟨rfl, hb2⟩) | (go_simp; go_at_call 111; (with_reducible refine (hX.out _).mono ?_); rintro e w' ⟨rfl, rfl⟩))
    try go_simp
    try (refine hK _ _ ?_; clear hK K)
    refine wpAny_take (i := 9) (v := ?_) rfl (by kernel_rfl) (by kernel_rfl) (by kernel_rfl) (fun _ _ _ h => h) (Or.inl ⟨by rfl, ?_⟩) ?_
    rotate_left 1
    · (intro w; go_simp; try with_reducible rfl)
    try simp only [Act.put, List.setIfInBounds_toArray, List.set_cons_zero, List.set_cons_succ, List.getElem_toArray, List.getElem_cons_zero, List.getElem_cons_succ]
    refine wpAny_take (i := 10) (v := ?_) rfl (by kernel_rfl) (by kernel_rfl) (by kernel_rfl) (fun _ _ _ h => h) (Or.inl ⟨by rfl, ?_⟩) ?_
    rotate_left 1
    · (intro w; go_simp; try with_reducible rfl)
    try simp only [Act.put, List.setIfInBounds_toArray, List.set_cons_zero, List.set_cons_succ, List.getElem_toArray, List.getElem_cons_zero, List.getElem_cons_succ]
    refine wpAny_take (i := 11) (v := ?_) rfl (by kernel_rfl) (by kernel_rfl) (by kernel_rfl) (fun _ _ _ h => h) (Or.inl ⟨by rfl, ?_⟩) ?_
    rotate_left 1
    · (intro w; go_simp; try with_reducible rfl)
    try simp only [Act.put, List.setIfInBounds_toArray, List.set_cons_zero, List.set_cons_succ, List.getElem_toArray, List.getElem_cons_zero, List.getElem_cons_succ]
    refine wpAny_take (i := 12) (v := undef) rfl (by kernel_rfl) (by kernel_rfl) (by kernel_rfl) (fun _ _ _ h => h) (Or.inr ⟨by rfl, rfl⟩) ?_
    try simp only [Act.put, List.setIfInBounds_toArray, List.set_cons_zero, List.set_cons_succ, List.getElem_toArray, List.getElem_cons_zero, List.getElem_cons_succ]
    refine wpAny_take (i := 13) (v := undef) rfl (by kernel_rfl) (by kernel_rfl) (by kernel_rfl) (fun _ _ _ h => h) (Or.inr ⟨by rfl, rfl⟩) ?_
    try simp only [Act.put, List.setIfInBounds_toArray, List.set_cons_zero, List.set_cons_succ, List.getElem_toArray, List.getElem_cons_zero, List.getElem_cons_succ]
    refine wpAny_take (i := 14) (v := undef) rfl (by kernel_rfl) (by kernel_rfl) (by kernel_rfl) (fun _ _ _ h => h) (Or.inr ⟨by rfl, rfl⟩) ?_
    try simp only [Act.put, List.setIfInBounds_toArray, List.set_cons_zero, List.set_cons_succ, List.getElem_toArray, List.getElem_cons_zero, List.getElem_cons_succ]
    refine wpAny_take (i := 15) (v := undef) rfl (by kernel_rfl) (by kernel_rfl) (by kernel_rfl) (fun _ _ _ h => h) (Or.inr ⟨by rfl, rfl⟩) ?_
    try simp only [Act.put, List.setIfInBounds_toArray, List.set_cons_zero, List.set_cons_succ, List.getElem_toArray, List.getElem_cons_zero, List.getElem_cons_succ]
    refine wpAny_take (i := 16) (v := undef) rfl (by kernel_rfl) (by kernel_rfl) (by kernel_rfl) (fun _ _ _ h => h) (Or.inr ⟨by rfl, rfl⟩) ?_
    try simp only [Act.put, List.setIfInBounds_toArray, List.set_cons_zero, List.set_cons_succ, List.getElem_toArray, List.getElem_cons_zero, List.getElem_cons_succ]
    refine wpAny_take (i := 17) (v := undef) rfl (by kernel_rfl) (by kernel_rfl) (by kernel_rfl) (fun _ _ _ h => h) (Or.inr ⟨by rfl, rfl⟩) ?_
    try simp only [Act.put, List.setIfInBounds_toArray, List.set_cons_zero, List.set_cons_succ, List.getElem_toArray, List.getElem_cons_zero, List.getElem_cons_succ]
    refine wpAny_take (i := 18) (v := undef) rfl (by kernel_rfl) (by kernel_rfl) (by kernel_rfl) (fun _ _ _ h => h) (Or.inr ⟨by rfl, rfl⟩) ?_
    try simp only [Act.put, List.setIfInBounds_toArray, List.set_cons_zero, List.set_cons_succ, List.getElem_toArray, List.getElem_cons_zero, List.getElem_cons_succ]
    refine wpAny_take (i := 19) (v := undef) rfl (by kernel_rfl) (by kernel_rfl) (by kernel_rfl) (fun _ _ _ h => h) (Or.inr ⟨by rfl, rfl⟩) ?_
    try simp only [Act.put, List.setIfInBounds_toArray, List.set_cons_zero, List.set_cons_succ, List.getElem_toArray, List.getElem_cons_zero, List.getElem_cons_succ]
    refine wpAny_take (i := 20) (v := undef) rfl (by kernel_rfl) (by kernel_rfl) (by kernel_rfl) (fun _ _ _ h => h) (Or.inr ⟨by rfl, rfl⟩) ?_
    try simp only [Act.put, List.setIfInBounds_toArray, List.set_cons_zero, List.set_cons_succ, List.getElem_toArray, List.getElem_cons_zero, List.getElem_cons_succ]
    refine wpAny_take (i := 21) (v := undef) rfl (by kernel_rfl) (by kernel_rfl) (by kernel_rfl) (fun _ _ _ h => h) (Or.inr ⟨by rfl, rfl⟩) ?_
    try simp only [Act.put, List.setIfInBounds_toArray, List.set_cons_zero, List.set_cons_succ, List.getElem_toArray, List.getElem_cons_zero, List.getElem_cons_succ]
    refine wpAny_take (i := 22) (v := undef) rfl (by kernel_rfl) (by kernel_rfl) (by kernel_rfl) (fun _ _ _ h => h) (Or.inr ⟨by rfl, rfl⟩) ?_
    try simp only [Act.put, List.setIfInBounds_toArray, List.set_cons_zero, List.set_cons_succ, List.getElem_toArray, List.getElem_cons_zero, List.getElem_cons_succ]
    refine wpAny_take (i := 23) (v := ?_) rfl (by kernel_rfl) (by kernel_rfl) (by kernel_rfl) (fun _ _ _ h => h) (Or.inl ⟨by rfl, ?_⟩) ?_
    rotate_left 1
    · (intro w; go_simp; try with_reducible rfl)
    try simp only [Act.put, List.setIfInBounds_toArray, List.set_cons_zero, List.set_cons_succ, List.getElem_toArray, List.getElem_cons_zero, List.getElem_cons_succ]
    refine wpAny_done (by kernel_rfl) ?_ _
    rotate_left 1
    all_goals
      go_wp2
      go_ret2
      rw [hR.out, hK.out]; exact ⟨none, 0, rfl, OK.nil _ _ _ _, hB0.out.trans hb2⟩
  obtain ⟨n, rfl, hn⟩ := inR_nat hr
  have hr' := Lib.hid hr
  have hX := Lib.hid (l1In_lit _ _ _ _ hr)
  have hwr : IntKind.i64.wrap ((es.length : Int) - 2) = (es.length : Int) - 2 := IntWalk.i64_in _ (by omega)
  have hn' : n < es.length := by omega
  clear hr
  obtain ⟨b, o, rfl, ⟨_, hbB⟩, hc0⟩ := In.cells hE.out (by omega)
  have hC0 := Lib.hid hc0
  clear hc0
  have hg0 : es.getD n zeroIn = es[n] := by rw [List.getD_eq_getElem?_getD, List.getElem?_eq_getElem hn']; rfl
  have hg1 : es.getD (n + 1) zeroIn = es[n + 1] := by rw [List.getD_eq_getElem?_getD, List.getElem?_eq_getElem hn]; rfl
  have hK0 : Hid (swOk es n = freeB es[n] es[n + 1]) := by rw [Hid, swOk, hG.out, hr'.out, Int.toNat_natCast, hg0, hg1]; rfl
  have hR0 : Hid (swOk es n = true → swapR es n = (es.set n es[n + 1]).set (n + 1) es[n]) := by intro h; rw [swapR, if_pos h, Int.toNat_natCast, hg0, hg1]
  have hA := Lib.hid (fun W => cdFree_any es[n] es[n + 1] W)
  clear hg0 hg1
  have hCx := Lib.hid (hC0.out n hn')
  have hCy := Lib.hid (hC0.out (n + 1) hn)
  have i1 : (n : Int) < es.length := by omega
  have i2 : (n : Int) + 1 < es.length := by omega
  have hw1 : IntKind.i64.wrap ((n : Int) + 1) = (n : Int) + 1 := IntWalk.i64_in _ (by omega)
  have hw2 : ((n : Int) + 1).toNat = n + 1 := by omega
  have i0' : (0 : Int) ≤ (n : Int) + 1 := by omega
  generalize hx : es[n] = x at *
  generalize hy : es[n + 1] = y at *
  obtain ⟨op, d, a, b1, m⟩ := x
  obtain ⟨op', d', a', b1', m'⟩ := y
  have hxx := Lib.hid hx
  have hyy := Lib.hid hy
  clear hx hy
  simp only at hA hCx hCy
  generalize hf : freeB ⟨op, d, a, b1, m⟩ ⟨op', d', a', b1', m'⟩ = F at *
  have hbw : b < w.heap.size := by have := hBB.out; omega
  clear hf
  go_enter Try.func62, Try.ntmps62
  go_wp2_with (fail)
  refine wp_region_any (by kernel_rfl) ?_
  try (change wpAny _ _ _ _ _ _ _ (World.drew _))
  refine wpAny_take (i := 0) (v := ?_) rfl (by kernel_rfl) (by kernel_rfl) (by kernel_rfl) (fun _ _ _ h => h) (Or.inl ⟨by rfl, ?_⟩) ?_
  rotate_left 1
  · (intro w; go_simp; try with_reducible rfl)
  try simp only [Act.put, List.setIfInBounds_toArray, List.set_cons_zero, List.set_cons_succ, List.getElem_toArray, List.getElem_cons_zero, List.getElem_cons_succ]
  refine wpAny_ready (rs := [1]) (by kernel_rfl) (by simp) ?_
  refine AllReady.cons rfl (fun K hK => ?_) (AllReady.nil)
  try simp only [List.setIfInBounds_toArray, List.set_cons_zero, List.set_cons_succ, List.getElem_toArray, List.getElem_cons_zero, List.getElem_cons_succ]
  (first | (go_simp; go_at_call 72; (with_reducible refine H.out.mono ?_); rintro e w2 ⟨rfl, hb2⟩; obtain ⟨c1, c2, c3, c4, c5⟩ := hCx.out; obtain ⟨d1, d2, d3, d4, d5⟩ := hCy.out; have c1 := (hb2.cell (by exact hbw)).trans c1; have c2 := (hb2.cell (by exact hbw)).trans c2; have c3 := (hb2.cell (by exact hbw)).trans c3; have c4 := (hb2.cell (by exact hbw)).trans c4; have c5 := (hb2.cell (by exact hbw)).trans c5; have d1 := (hb2.cell (by exact hbw)).trans d1; have d2 := (hb2.cell (by exact hbw)).trans d2; have d3 := (hb2.cell (by exact hbw)).trans d3; have d4 := (hb2.cell (by exact hbw)).trans d4; have d5 := (hb2.cell (by exact hbw)).trans d5) | (go_simp; go_at_call 111; (with_reducible refine (hX.out _).mono ?_); rintro e w' ⟨rfl, rfl⟩) | (go_simp; go_at_call 109; (with_reducible refine (hA.out _).mono ?_); rintro e w3 ⟨rfl, hb3⟩))
  try go_simp
  try (refine hK _ _ ?_; clear hK K)
  refine wpAny_take (i := 2) (v := ?_) rfl (by kernel_rfl) (by kernel_rfl) (by kernel_rfl) (fun _ _ _ h => h) (Or.inl ⟨by rfl, ?_⟩) ?_
  rotate_left 1
  · (intro w; go_simp; try with_reducible rfl)
  try simp only [Act.put, List.setIfInBounds_toArray, List.set_cons_zero, List.set_cons_succ, List.getElem_toArray, List.getElem_cons_zero, List.getElem_cons_succ]
  refine wpAny_take (i := 3) (v := ?_) rfl (by kernel_rfl) (by kernel_rfl) (by kernel_rfl) (fun _ _ _ h => h) (Or.inl ⟨by rfl, ?_⟩) ?_
  rotate_left 1
  · (intro w; go_simp; try with_reducible rfl)
  try simp only [Act.put, List.setIfInBounds_toArray, List.set_cons_zero, List.set_cons_succ, List.getElem_toArray, List.getElem_cons_zero, List.getElem_cons_succ]
  refine wpAny_take (i := 4) (v := ?_) rfl (by kernel_rfl) (by kernel_rfl) (by kernel_rfl) (fun _ _ _ h => h) (Or.inl ⟨by rfl, ?_⟩) ?_
  rotate_left 1
  · (intro w; go_simp; try with_reducible rfl)
  try simp only [Act.put, List.setIfInBounds_toArray, List.set_cons_zero, List.set_cons_succ, List.getElem_toArray, List.getElem_cons_zero, List.getElem_cons_succ]
  refine wpAny_take (i := 5) (v := ?_) rfl (by kernel_rfl) (by kernel_rfl) (by kernel_rfl) (fun _ _ _ h => h) (Or.inl ⟨by rfl, ?_⟩) ?_
  rotate_left 1
  · (intro w; go_simp; try with_reducible rfl)
  try simp only [Act.put, List.setIfInBounds_toArray, List.set_cons_zero, List.set_cons_succ, List.getElem_toArray, List.getElem_cons_zero, List.getElem_cons_succ]
  refine wpAny_take (i := 6) (v := ?_) rfl (by kernel_rfl) (by kernel_rfl) (by kernel_rfl) (fun _ _ _ h => h) (Or.inl ⟨by rfl, ?_⟩) ?_
  rotate_left 1
  · (intro w; go_simp; try with_reducible rfl)
  try simp only [Act.put, List.setIfInBounds_toArray, List.set_cons_zero, List.set_cons_succ, List.getElem_toArray, List.getElem_cons_zero, List.getElem_cons_succ]
  refine wpAny_take (i := 7) (v := ?_) rfl (by kernel_rfl) (by kernel_rfl) (by kernel_rfl) (fun _ _ _ h => h) (Or.inl ⟨by rfl, ?_⟩) ?_
  rotate_left 1
  · (intro w; go_simp; try with_reducible rfl)
  try simp only [Act.put, List.setIfInBounds_toArray, List.set_cons_zero, List.set_cons_succ, List.getElem_toArray, List.getElem_cons_zero, List.getElem_cons_succ]
  refine wpAny_ready (rs := [8]) (by kernel_rfl) (by simp) ?_
  refine AllReady.cons rfl (fun K hK => ?_) (AllReady.nil)
  try simp only [List.setIfInBounds_toArray, List.set_cons_zero, List.set_cons_succ, List.getElem_toArray, List.getElem_cons_zero, List.getElem_cons_succ]
  (first | (go_simp; go_at_call 72; (with_reducible refine H.out.mono ?_); rintro e w2 ⟨rfl, hb2⟩; obtain ⟨c1, c2, c3, c4, c5⟩ := hCx.out; obtain ⟨d1, d2, d3, d4, d5⟩ := hCy.out; have c1 := (hb2.cell (by exact hbw)).trans c1; have c2 := (hb2.cell (by exact hbw)).trans c2; have c3 := (hb2.cell (by exact hbw)).trans c3; have c4 := (hb2.cell (by exact hbw)).trans c4; have c5 := (hb2.cell (by exact hbw)).trans c5; have d1 := (hb2.cell (by exact hbw)).trans d1; have d2 := (hb2.cell (by exact hbw)).trans d2; have d3 := (hb2.cell (by exact hbw)).trans d3; have d4 := (hb2.cell (by exact hbw)).trans d4; have d5 := (hb2.cell (by exact hbw)).trans d5) | (go_simp; go_at_call 111; (with_reducible refine (hX.out _).mono ?_); rintro e w' ⟨rfl, rfl⟩) | (go_simp; go_at_call 109; (with_reducible refine (hA.out _).mono ?_); rintro e w3 ⟨rfl, hb3⟩))
  try go_simp
  try (refine hK _ _ ?_; clear hK K)
  refine wpAny_take (i := 9) (v := ?_) rfl (by kernel_rfl) (by kernel_rfl) (by kernel_rfl) (fun _ _ _ h => h) (Or.inl ⟨by rfl, ?_⟩) ?_
  rotate_left 1
  · (intro w; go_simp; try with_reducible rfl)
  try simp only [Act.put, List.setIfInBounds_toArray, List.set_cons_zero, List.set_cons_succ, List.getElem_toArray, List.getElem_cons_zero, List.getElem_cons_succ]
  refine wpAny_take (i := 10) (v := ?_) rfl (by kernel_rfl) (by kernel_rfl) (by kernel_rfl) (fun _ _ _ h => h) (Or.inl ⟨by rfl, ?_⟩) ?_
  rotate_left 1
  · (intro w; go_simp; try with_reducible rfl)
  try simp only [Act.put, List.setIfInBounds_toArray, List.set_cons_zero, List.set_cons_succ, List.getElem_toArray, List.getElem_cons_zero, List.getElem_cons_succ]
  refine wpAny_take (i := 11) (v := ?_) rfl (by kernel_rfl) (by kernel_rfl) (by kernel_rfl) (fun _ _ _ h => h) (Or.inl ⟨by rfl, ?_⟩) ?_
  rotate_left 1
  · (intro w; go_simp; try with_reducible rfl)
  try simp only [Act.put, List.setIfInBounds_toArray, List.set_cons_zero, List.set_cons_succ, List.getElem_toArray, List.getElem_cons_zero, List.getElem_cons_succ]
  refine wpAny_take (i := 12) (v := ?_) rfl (by kernel_rfl) (by kernel_rfl) (by kernel_rfl) (fun _ _ _ h => h) (Or.inl ⟨by rfl, ?_⟩) ?_
  rotate_left 1
  · (intro w; go_simp; try with_reducible rfl)
  try simp only [Act.put, List.setIfInBounds_toArray, List.set_cons_zero, List.set_cons_succ, List.getElem_toArray, List.getElem_cons_zero, List.getElem_cons_succ]
  refine wpAny_take (i := 13) (v := ?_) rfl (by kernel_rfl) (by kernel_rfl) (by kernel_rfl) (fun _ _ _ h => h) (Or.inl ⟨by rfl, ?_⟩) ?_
  rotate_left 1
  · (intro w; go_simp; try with_reducible rfl)
  try simp only [Act.put, List.setIfInBounds_toArray, List.set_cons_zero, List.set_cons_succ, List.getElem_toArray, List.getElem_cons_zero, List.getElem_cons_succ]
  refine wpAny_take (i := 14) (v := ?_) rfl (by kernel_rfl) (by kernel_rfl) (by kernel_rfl) (fun _ _ _ h => h) (Or.inl ⟨by rfl, ?_⟩) ?_
  rotate_left 1
  · (intro w; go_simp; try with_reducible rfl)
  try simp only [Act.put, List.setIfInBounds_toArray, List.set_cons_zero, List.set_cons_succ, List.getElem_toArray, List.getElem_cons_zero, List.getElem_cons_succ]
  refine wpAny_take (i := 16) (v := ?_) rfl (by kernel_rfl) (by kernel_rfl) (by kernel_rfl) (fun _ _ _ h => h) (Or.inl ⟨by rfl, ?_⟩) ?_
  rotate_left 1
  · (intro w; go_simp; try with_reducible rfl)
  try simp only [Act.put, List.setIfInBounds_toArray, List.set_cons_zero, List.set_cons_succ, List.getElem_toArray, List.getElem_cons_zero, List.getElem_cons_succ]
  refine wpAny_take (i := 17) (v := ?_) rfl (by kernel_rfl) (by kernel_rfl) (by kernel_rfl) (fun _ _ _ h => h) (Or.inl ⟨by rfl, ?_⟩) ?_
  rotate_left 1
  · (intro w; go_simp; try with_reducible rfl)
  try simp only [Act.put, List.setIfInBounds_toArray, List.set_cons_zero, List.set_cons_succ, List.getElem_toArray, List.getElem_cons_zero, List.getElem_cons_succ]
  refine wpAny_take (i := 18) (v := ?_) rfl (by kernel_rfl) (by kernel_rfl) (by kernel_rfl) (fun _ _ _ h => h) (Or.inl ⟨by rfl, ?_⟩) ?_
  rotate_left 1
  · (intro w; go_simp; try with_reducible rfl)
  try simp only [Act.put, List.setIfInBounds_toArray, List.set_cons_zero, List.set_cons_succ, List.getElem_toArray, List.getElem_cons_zero, List.getElem_cons_succ]
  refine wpAny_take (i := 19) (v := ?_) rfl (by kernel_rfl) (by kernel_rfl) (by kernel_rfl) (fun _ _ _ h => h) (Or.inl ⟨by rfl, ?_⟩) ?_
  rotate_left 1
  · (intro w; go_simp; try with_reducible rfl)
  try simp only [Act.put, List.setIfInBounds_toArray, List.set_cons_zero, List.set_cons_succ, List.getElem_toArray, List.getElem_cons_zero, List.getElem_cons_succ]
  refine wpAny_ready (rs := [15, 20]) (by kernel_rfl) (by simp) ?_
  refine AllReady.cons rfl (fun K hK => ?_) (AllReady.cons rfl (fun K hK => ?_) (AllReady.nil))
  try simp only [List.setIfInBounds_toArray, List.set_cons_zero, List.set_cons_succ, List.getElem_toArray, List.getElem_cons_zero, List.getElem_cons_succ]
  go_simp
  try (refine hK _ _ ?_; clear hK K)
  refine wpAny_ready (rs := [20]) (by kernel_rfl) (by simp) ?_
  refine AllReady.cons rfl (fun K hK => ?_) (AllReady.nil)
  try simp only [List.setIfInBounds_toArray, List.set_cons_zero, List.set_cons_succ, List.getElem_toArray, List.getElem_cons_zero, List.getElem_cons_succ]
  go_simp
  try (refine hK _ _ ?_; clear hK K)
  refine wpAny_ready (rs := [21]) (by kernel_rfl) (by simp) ?_
  refine AllReady.cons rfl (fun K hK => ?_) (AllReady.nil)
  try simp only [List.setIfInBounds_toArray, List.set_cons_zero, List.set_cons_succ, List.getElem_toArray, List.getElem_cons_zero, List.getElem_cons_succ]
  (first | (go_simp; go_at_call 72; (with_reducible refine H.out.mono ?_); rintro e w2 ⟨rfl, hb2⟩; obtain ⟨c1, c2, c3, c4, c5⟩ := hCx.out; obtain ⟨d1, d2, d3, d4, d5⟩ := hCy.out; have c1 := (hb2.cell (by exact hbw)).trans c1; have c2 := (hb2.cell (by exact hbw)).trans c2; have c3 := (hb2.cell (by exact hbw)).trans c3; have c4 := (hb2.cell (by exact hbw)).trans c4; have c5 := (hb2.cell (by exact hbw)).trans c5; have d1 := (hb2.cell (by exact hbw)).trans d1; have d2 := (hb2.cell (by exact hbw)).trans d2; have d3 := (hb2.cell (by exact hbw)).trans d3; have d4 := (hb2.cell (by exact hbw)).trans d4; have d5 := (hb2.cell (by exact hbw)).trans d5) | (go_simp; go_at_call 111; (with_reducible refine (hX.out _).mono ?_); rintro e w' ⟨rfl, rfl⟩) | (go_simp; go_at_call 109; (with_reducible refine (hA.out _).mono ?_); rintro e w3 ⟨rfl, hb3⟩))
  try go_simp
  try (refine hK _ _ ?_; clear hK K)
  refine wpAny_take (i := 22) (v := ?_) rfl (by kernel_rfl) (by kernel_rfl) (by kernel_rfl) (fun _ _ _ h => h) (Or.inl ⟨by rfl, ?_⟩) ?_
  rotate_left 1
  · (intro w; go_simp; try with_reducible rfl)
  try simp only [Act.put, List.setIfInBounds_toArray, List.set_cons_zero, List.set_cons_succ, List.getElem_toArray, List.getElem_cons_zero, List.getElem_cons_succ]
  refine wpAny_take (i := 23) (v := ?_) rfl (by kernel_rfl) (by kernel_rfl) (by kernel_rfl) (fun _ _ _ h => h) (Or.inl ⟨by rfl, ?_⟩) ?_
  rotate_left 1
  · (intro w; go_simp; try with_reducible rfl)
  try simp only [Act.put, List.setIfInBounds_toArray, List.set_cons_zero, List.set_cons_succ, List.getElem_toArray, List.getElem_cons_zero, List.getElem_cons_succ]
  refine wpAny_done (by kernel_rfl) ?_ _
  rotate_left 1
  try simp only [List.setIfInBounds_toArray, List.set_cons_zero, List.set_cons_succ, List.getElem_toArray, List.getElem_cons_zero, List.getElem_cons_succ]
  go_simp
  try (refine hK _ _ ?_; clear hK K)
  refine wpAny_ready (rs := [15]) (by kernel_rfl) (by simp) ?_
  refine AllReady.cons rfl (fun K hK => ?_) (AllReady.nil)
  try simp only [List.setIfInBounds_toArray, List.set_cons_zero, List.set_cons_succ, List.getElem_toArray, List.getElem_cons_zero, List.getElem_cons_succ]
  go_simp
  try (refine hK _ _ ?_; clear hK K)
  refine wpAny_ready (rs := [21]) (by kernel_rfl) (by simp) ?_
  refine AllReady.cons rfl (fun K hK => ?_) (AllReady.nil)
  try simp only [List.setIfInBounds_toArray, List.set_cons_zero, List.set_cons_succ, List.getElem_toArray, List.getElem_cons_zero, List.getElem_cons_succ]
  (first | (go_simp; go_at_call 72; (with_reducible refine H.out.mono ?_); rintro e w2 ⟨rfl, hb2⟩; obtain ⟨c1, c2, c3, c4, c5⟩ := hCx.out; obtain ⟨d1, d2, d3, d4, d5⟩ := hCy.out; have c1 := (hb2.cell (by exact hbw)).trans c1; have c2 := (hb2.cell (by exact hbw)).trans c2; have c3 := (hb2.cell (by exact hbw)).trans c3; have c4 := (hb2.cell (by exact hbw)).trans c4; have c5 := (hb2.cell (by exact hbw)).trans c5; have d1 := (hb2.cell (by exact hbw)).trans d1; have d2 := (hb2.cell (by exact hbw)).trans d2; have d3 := (hb2.cell (by exact hbw)).trans d3; have d4 := (hb2.cell (by exact hbw)).trans d4; have d5 := (hb2.cell (by exact hbw)).trans d5) | (go_simp; go_at_call 111; (with_reducible refine (hX.out _).mono ?_); rintro e w' ⟨rfl, rfl⟩) | (go_simp; go_at_call 109; (with_reducible refine (hA.out _).mono ?_); rintro e w3 ⟨rfl, hb3⟩))
  try go_simp
  try (refine hK _ _ ?_; clear hK K)
  refine wpAny_take (i := 22) (v := ?_) rfl (by kernel_rfl) (by kernel_rfl) (by kernel_rfl) (fun _ _ _ h => h) (Or.inl ⟨by rfl, ?_⟩) ?_
  rotate_left 1
  · (intro w; go_simp; try with_reducible rfl)
  try simp only [Act.put, List.setIfInBounds_toArray, List.set_cons_zero, List.set_cons_succ, List.getElem_toArray, List.getElem_cons_zero, List.getElem_cons_succ]
  refine wpAny_take (i := 23) (v := ?_) rfl (by kernel_rfl) (by kernel_rfl) (by kernel_rfl) (fun _ _ _ h => h) (Or.inl ⟨by rfl, ?_⟩) ?_
  rotate_left 1
  · (intro w; go_simp; try with_reducible rfl)
  try simp only [Act.put, List.setIfInBounds_toArray, List.set_cons_zero, List.set_cons_succ, List.getElem_toArray, List.getElem_cons_zero, List.getElem_cons_succ]
  refine wpAny_done (by kernel_rfl) ?_ _
  rotate_left 1
  all_goals
    have hbb2 := Lib.hid (hB0.out.trans hb2)
    have hz2 := hb2.size
    have hz3 := hb3.size
    have hz2' : w.heap.size ≤ w2.heap.size := hz2
    have hbb3 := Lib.hid (hbb2.out.trans (hb3.mono hz2'))
    have hE3 := Lib.hid (hE.out.below hbb3.out hBB.out)
    clear hb2 hb3 c1 c2 c3 c4 c5 d1 d2 d3 d4 d5
    cases F
    · have hK : Hid (swOk es n = false) := hK0.out
      have hR := Lib.hid (swapR_no hK.out)
      go_wp2
      go_ret2
      rw [hR.out, hK.out]; exact ⟨none, 0, rfl, OK.nil _ _ _ _, hbb3.out⟩
    have hK : Hid (swOk es n = true) := hK0.out
    have hR := Lib.hid (hR0.out hK.out)
    obtain ⟨i0, hi, hz0, hz1, hz2x⟩ := info_parts Try.infoInstr
    have hz3' : Hid (w.heap.size ≤ w3.heap.size) := Nat.le_trans hz2' hz3
    have hBz : Hid (B ≤ w3.heap.size) := Nat.le_trans hBB.out hz3'.out
    have hb3w : Hid (b < w3.heap.size) := Nat.lt_of_lt_of_le hbB hBz.out
    have hb0 := Lib.hid ((Below.refl w3.heap.size w3).alloc (Nat.le_refl _) (.cells #[] 26))
    have hnews := Lib.hid ((hE3.out.below hb0.out (by have := hBB.out; omega)).news In.hk)
    have hown := Lib.hid (World.ownsRow_made (base := w3.heap.size) (e := 26) (size := 5) w3 #[] 0 (Nat.le_refl _) (by unfold maxLen; omega) (by simp))
    go_wp2_with (at_builtin; refine wpList_append_src rfl (.tmp 31) (.tmp 32) 32 rfl w3.heap.size 26 i0 _ 5 48 Try.underlying32 hi hz0 hz1 hz2x rfl (by decide) _ 0 [] rfl hown.out (some ⟨b, o, none⟩) es.length c (es.flatMap In.enc) rfl (kflat_len In.hk es) hnews.out (five_ones es) (by unfold maxLen; omega) (by omega) (by simp) ?_; intro v' w4 hown' hgrow _; simp only [Nat.zero_add, List.nil_append] at hown'; have ho4 := OK.ofRow hown' rfl; have hb4 : Below w3.heap.size w3 w4 := (hb0.out.grown hgrow (by simp) (fun k hk => (by cases hk; exact Nat.le_refl _))); have hz4 := hb4.size; have hbb4 := Lib.hid (hbb3.out.trans (hb4.mono hz3'.out)); obtain ⟨⟨c1, c2, c3, c4, c5⟩, ⟨d1, d2, d3, d4, d5⟩⟩ := code_two (hE3.out.below hb4 hBz.out) hn hxx.out hyy.out; simp only at c1 c2 c3 c4 c5 d1 d2 d3 d4 d5; obtain ⟨g, cap, rest, rfl, hgl, hgh, hlc, hcm, hcb, hcl⟩ := OK.some' ho4 (Nat.lt_of_le_of_lt (Nat.zero_le _) hn); have hCB := Lib.hid hcb; have hgl' := Lib.hid hgl; have hcl' := Lib.hid hcl; have hcm' := Lib.hid hcm; have hlc' := Lib.hid hlc; obtain ⟨z0, z1, z2, z3, z4, p1, p2, p3, p4, p5⟩ := In.cellsB hcb n hn'; obtain ⟨y0, y1, y2, y3, y4, q1, q2, q3, q4, q5⟩ := In.cellsB hcb (n + 1) hn; have f1 := hcb.frozen (n * 5); have f2 := hcb.frozen (n * 5 + 1); have f3 := hcb.frozen (n * 5 + 2); have f4 := hcb.frozen (n * 5 + 3); have f5 := hcb.frozen (n * 5 + 4); have g1 := hcb.frozen ((n + 1) * 5); have g2 := hcb.frozen ((n + 1) * 5 + 1); have g3 := hcb.frozen ((n + 1) * 5 + 2); have g4 := hcb.frozen ((n + 1) * 5 + 3); have g5 := hcb.frozen ((n + 1) * 5 + 4); have hne : ¬ b = g := (fun e => by rw [e] at hb3w; exact absurd (Nat.lt_of_lt_of_le hb3w.out hgl) (Nat.lt_irrefl _)); have hne' : ¬ g = b := fun h => hne h.symm; clear hcb ho4 hown' hgrow hcl hcm hgl hgh hb4 hi hz0 hz1 hz2x)
    have hgw : w.heap.size ≤ g := Nat.le_trans hz3'.out hgl'.out
    have h1 := hCB.out.store In.hk n hn' ⟨op', d', a', b1', m'⟩
    have h2 := h1.store In.hk (n + 1) (by rw [List.length_set]; exact hn) ⟨op, d, a, b1, m⟩
    have hle : ((es.set n (⟨op', d', a', b1', m'⟩ : In)).set (n + 1) ⟨op, d, a, b1, m⟩).length = es.length := by rw [List.length_set, List.length_set]
    have h3 := OK.close (lo := w.heap.size) In.hk h2 hgw (CB.lt h2) (by rw [hle]; exact hlc) hcm'.out (by have hcl := hcl'.out; rw [List.length_append, kflat_len In.hk, hle]; rw [List.length_append, kflat_len In.hk] at hcl; exact hcl)
    have hfin := Lib.hid h3
    have hle' := Lib.hid hle
    have hbf := Lib.hid (below_setCells (In.enc ⟨op, d, a, b1, m⟩) g ((n + 1) * 5) (below_setCells (In.enc ⟨op', d', a', b1', m'⟩) g (n * 5) hbb4.out hgw) hgw)
    clear h1 h2 h3 hle
    simp only [setCells, In.enc, Nat.add_assoc, Nat.reduceAdd] at hfin hbf
    clear c1 c2 c3 c4 c5 d1 d2 d3 d4 d5 p1 p2 p3 p4 p5 q1 q2 q3 q4 q5 f1 f2 f3 f4 f5 g1 g2 g3 g4 g5 hCB
    generalize (World.setCell _ _ _) = W at hfin hbf ⊢
    generalize ((es.set n (⟨op', d', a', b1', m'⟩ : In)).set (n + 1) ⟨op, d, a, b1, m⟩) = Z at *
    go_ret2
    rw [hR.out, hK.out]
    refine ⟨some ⟨g, 0, none⟩, cap, by rw [hle'.out]; rfl, ?_, ?_⟩
    · exact hfin.out
    · first | exact hbf.out | exact hbf.out.drew
end Go.Proofs.Ytjnbgnnlpeoaoaa
