import Derived.Test.YtcfmfbgnfpgpgaaQC
import Derived.Test.YtcfmfbgnfpgpgaaLawX
import Derived.WalkKit
import Derived.WalkSpells
import Derived.WalkLawsBesides
import Derived.Lib.Hide
/- AskedBits: the program's side. -/
namespace Go.Proofs.Ytcfmfbgnfpgpgaa
open Go.RowKit
set_option linter.unusedVariables false
set_option maxRecDepth 100000

theorem askT_tab (es : List Nd) (q : Nat) : orI (fun t => (tabTo (fun x0 x1 => mlI 0 (askP es q x0 x1) 6) 4096).getD t 0) 4096 = orI (askT es q) 4096 :=
  orI_ext fun t ht => by rw [tabTo_get _ ht]; rfl
theorem abR_bad {es : List Nd} {k : Int} (h : abB es k = false) : abR es k = 0 := by unfold abR; rw [if_neg (by rw [h]; decide)]
theorem abR_good {es : List Nd} {k : Int} {q : Nat} (h : abB es k = true) (hk : k = q) : abR es k = orI (askT es q) 4096 := by unfold abR; rw [if_pos h, hk, Int.toNat_natCast]

set_option maxHeartbeats 4000000 in
theorem iAskedBits_any (L B : Nat) (A : Option Addr) (c : Nat) (es : List Nd) (k : Int) (w : World) (hl : es.length ≤ 1048576) (hes : NS w L B A es) (hB : B ≤ w.heap.size) :
    Calls Try.prog 57 #[.slice A es.length c, .int .i64 k] w fun e w' => e = .returned (.tuple #[.int .i64 (abR es k), .bool (abB es k)]) ∧ Below w.heap.size w w' := by
  have GE := Lib.hid (IsExpr_any L B A c es w hl hes hB)
  have HK := Lib.hid fun W => isIndex_any k es.length W
  have hE := Lib.hid hes
  have hBB := Lib.hid hB
  have hab : Hid (abB es k = (good es && inR k 0 (es.length - 1))) := rfl
  clear hes hB
  cases hg : good es
  · have h1 := Lib.hid (show abB es k = false by rw [hab.out, hg]; rfl)
    have h2 := Lib.hid (abR_bad h1.out)
    rw [hg] at GE
    clear hg HK
    go_enter Try.func57, Try.ntmps57
    go_wp2_with (fail)
    refine GE.out.mono ?_
    rintro e w1 ⟨rfl, hb⟩
    have b1 := Lib.hid hb; clear hb
    go_wp2_with (fail)
    go_ret2
    exact ⟨by rw [h1.out, h2.out]; rfl, b1.out⟩
  cases hk : inR k 0 (es.length - 1)
  · have h1 := Lib.hid (show abB es k = false by rw [hab.out, hk, Bool.and_false])
    have h2 := Lib.hid (abR_bad h1.out)
    rw [hg] at GE
    rw [hk] at HK
    clear hg hk
    go_enter Try.func57, Try.ntmps57
    go_wp2_with (fail)
    refine GE.out.mono ?_
    rintro e w1 ⟨rfl, hb⟩
    have b1 := Lib.hid hb; clear hb
    go_wp2_with (go_at_call 102; refine (HK.out _).mono ?_; rintro e w' ⟨rfl, rfl⟩)
    go_ret2
    exact ⟨by rw [h1.out, h2.out]; rfl, b1.out⟩
  have h1 := Lib.hid (show abB es k = true by rw [hab.out, hg, hk]; rfl)
  have hkr := (inR_iff _ _ _).1 hk
  obtain ⟨q, rfl⟩ := Int.eq_ofNat_of_zero_le hkr.1
  have hq : q < es.length := by omega
  have h2 := Lib.hid (abR_good h1.out rfl)
  obtain ⟨hl1, hl24, hok⟩ := good_len hg
  have hOk := Lib.hid hok
  rw [hg] at GE
  rw [hk] at HK
  have hmk := run_make_ints es.length hl
  have hQ := Lib.hid hq
  have hL := Lib.hid hl24
  clear hg hk hkr hok hq
  go_enter Try.func57, Try.ntmps57
  go_wp2_with (fail)
  refine GE.out.mono ?_
  rintro e w1 ⟨rfl, hb⟩
  have b1 := Lib.hid hb
  obtain ⟨W2, hW2⟩ : ∃ W2, W2 = w1.alloc (.cells (intCells (zeros es.length)) 3) := ⟨_, rfl⟩
  have c2 : Below w1.heap.size w1 W2 := by rw [hW2]; exact (Below.refl _ _).alloc (Nat.le_refl _) _
  have z2 : W2.heap.size = w1.heap.size + 1 := by rw [hW2]; simp
  have v2 : IB W2 w1.heap.size 3 (zeros es.length) := by rw [hW2]; exact heap_alloc_new w1 _
  obtain ⟨W3, hW3⟩ : ∃ W3, W3 = W2.alloc (.cells #[.slice A es.length c, .int .i64 q, .slice (some ⟨w1.heap.size, 0, none⟩) es.length es.length] 103) := ⟨_, rfl⟩
  have c3 : Below W2.heap.size W2 W3 := by rw [hW3]; exact (Below.refl _ _).alloc (Nat.le_refl _) _
  have z3 : W3.heap.size = w1.heap.size + 1 + 1 := by rw [hW3]; simp [z2]
  have v3 : IB W3 w1.heap.size 3 (zeros es.length) := v2.below c3 (by omega)
  have b3 := Lib.hid ((b1.out.trans (c2.mono b1.out.size)).trans (c3.mono (by have := b1.out.size; omega)))
  have n3 : NS W3 L B A es := (hE.out.below b3.out hBB.out)
  have hz1 := b1.out.size
  have hT := Lib.hid (tableFor_B (.slice A es.length c) (.int .i64 q) (.slice (some ⟨w1.heap.size, 0, none⟩) es.length es.length) (fun x0 x1 => mlI 0 (askP es q x0 x1) 6) w1.heap.size (HoldsV w1.heap.size es.length) W3 (by omega)
    ⟨zeros es.length, by simp [zeros], AllW.zeros _, v3⟩ (fun Wa Wb hI hs => by
      obtain ⟨us, a, b, d⟩ := hI
      exact ⟨us, a, b, (hs w1.heap.size (by omega)).trans d⟩)
    (fun x0 x1 W hx0 hx1 hbw hzw hinv => by
      refine (askedBits_any L B A c es.length es.length q w1.heap.size es x0 x1 W rfl hL.out hQ.out (n3.below hbw (by have := hBB.out; omega)) (by have := hBB.out; omega) (by omega) hinv hOk.out hx0 hx1).mono ?_
      rintro e W' ⟨rfl, hh, hgr⟩
      exact ⟨rfl, hh, some w1.heap.size, hgr, fun r hr => by injection hr with hr; omega⟩))
  have e3 : Hid (W3 = (w1.alloc (.cells (intCells (zeros es.length)) 3)).alloc (.cells #[.slice A es.length c, .int .i64 q, .slice (some ⟨w1.heap.size, 0, none⟩) es.length es.length] 103)) := by unfold Hid; rw [hW3, hW2]
  have hz3 := Lib.hid (show w1.heap.size ≤ W3.heap.size by omega)
  have hz0 := Lib.hid hz1
  clear hb hW2 hW3 c2 c3 z2 z3 v2 v3 n3 hz1
  go_wp2_with (go_at_call 102; refine (HK.out _).mono ?_; rintro e w' ⟨rfl, rfl⟩)
  rw [← e3.out]
  refine hT.out.mono ?_
  rintro e w4 ⟨V4, v4, rfl, how, hb, _⟩
  have b4 := Lib.hid (b3.out.trans (hb.mono hz0.out))
  have i4 := Lib.hid how.rs
  clear hb how
  have HBO := Lib.hid (bitsOfAny_any _ _ V4 v4 4096 _ w4 (by omega) (tabTo_len _ _) i4.out)
  rw [askT_tab, ← h2.out] at HBO
  go_wp2_with (fail)
  refine HBO.out.mono ?_
  rintro e w5 ⟨rfl, rfl⟩
  go_wp2_with (fail)
  go_ret2
  exact ⟨by rw [h1.out]; rfl, b4.out⟩
end Go.Proofs.Ytcfmfbgnfpgpgaa
