import Derived.Test.YtcfmfbgnfpgpgaaTI
import Derived.WalkKit
import Derived.WalkSpells
import Derived.WalkLawsBesides
import Derived.StillTailTactics
import Derived.Deep.QuietTactic
import Derived.BigQuiet
import Derived.Lib.Hide
/- What the methods tell, and the library's functions over lists of ints. -/
namespace Go.Proofs.Ytcfmfbgnfpgpgaa
open Go.RowKit
set_option linter.unusedVariables false
set_option maxRecDepth 100000

theorem exchanged_tells (N L B : Nat) (A : Option Addr) (c : Nat) (xs : List Int) (w : World) (hl : xs.length = 4096) (hx : IS w L B A xs) (hB : B ≤ N) :
    Tells N (fun _ => True) w 92 (.slice A 4096 c) (fun x0 x1 => xs.getD (64 * x1 + x0).toNat 0) := by
  intro x0 x1 W h0 h1 hb hz _
  refine (exchanged_any L B A c 4096 xs x0 x1 W rfl hl (hx.below hb hB) h0 h1).mono ?_
  rintro e W' ⟨rfl, rfl⟩
  have e1 : (64 * (x1 : Int) + (x0 : Int)).toNat = 64 * x1 + x0 := by omega
  refine ⟨?_, trivial, none, World.grownBy.refl _ _, fun k hk => by cases hk⟩
  show Ending.returned (.int .i64 _) = Ending.returned (.int .i64 (xs.getD (64 * (x1 : Int) + (x0 : Int)).toNat 0))
  rw [e1]

theorem two_cells (w : World) (a b : Value) (t : TypeId) : (w.alloc (.cells #[a, b] t)).cell? ⟨w.heap.size, 0, none⟩ = some a ∧ (w.alloc (.cells #[a, b] t)).cell? ⟨w.heap.size, 1, none⟩ = some b := by
  have h := fun i => cell_of_row _ w.heap.size i #[a, b] t (0, 0) (heap_alloc_new w _)
  exact ⟨h 0, h 1⟩

set_option maxHeartbeats 2000000 in
theorem differentBits_any (L B L' B' : Nat) (A A' : Option Addr) (c c' n : Nat) (xs ys : List Int) (x0 x1 : Nat) (w : World) (hn : n = 4096) (hl : xs.length = n) (hl' : ys.length = n) (hx : IS w L B A xs) (hy : IS w L' B' A' ys) (hB : B ≤ w.heap.size) (hB' : B' ≤ w.heap.size) (h0 : x0 < 64) (h1 : x1 < 64) :
    Calls Try.prog 112 #[.agg #[.slice A n c, .slice A' n c'], .int .i64 x0, .int .i64 x1] w fun e w' => e = .returned (.int .i64 (bits .xor .i64 (xs.getD (64 * x0 + x1) 0) (ys.getD (64 * x0 + x1) 0))) ∧ Below w.heap.size w w' := by
  have HX := Lib.hid fun (W : World) (hW : Below w.heap.size w W) => at_any L B A c n xs x0 x1 W hn hl (hx.below hW hB) h0 h1
  have HY := Lib.hid fun (W : World) (hW : Below w.heap.size w W) => at_any L' B' A' c' n ys x0 x1 W hn hl' (hy.below hW hB') h0 h1
  have hb := Lib.hid ((Below.refl w.heap.size w).alloc (Nat.le_refl _) (.cells #[.slice A n c, .slice A' n c'] 114))
  clear hx hy hB hB' hl hl' hn
  generalize xs.getD (64 * x0 + x1) 0 = p at *
  generalize ys.getD (64 * x0 + x1) 0 = q at *
  obtain ⟨c0, c1⟩ := two_cells w (.slice A n c) (.slice A' n c') 114
  have hbd := Lib.hid hb.out.drew
  go_enter Try.func112, Try.ntmps112
  go_wp2_with (fail)
  generalize w.alloc (.cells #[.slice A n c, .slice A' n c'] 114) = W0 at *
  go_region_held3 (fun w' => w'.cell? ⟨w.heap.size, 0, none⟩ = some (.slice A n c) ∧ w'.cell? ⟨w.heap.size, 1, none⟩ = some (.slice A' n c'))
    (first | exact ⟨c0, c1⟩ | go_keep)
    ((first
      | (go_at_call 116; (with_reducible refine (HX.out _ hbd.out).mono ?_); rintro e w' ⟨rfl, rfl⟩)
      | (go_at_call 116; (with_reducible refine (HY.out _ hbd.out).mono ?_); rintro e w' ⟨rfl, rfl⟩)))
  all_goals
    go_wp2
    go_ret
    exact ⟨rfl, hbd.out⟩

theorem differentBits_tells (N L B L' B' : Nat) (A A' : Option Addr) (c c' : Nat) (xs ys : List Int) (w : World) (hl : xs.length = 4096) (hl' : ys.length = 4096) (hx : IS w L B A xs) (hy : IS w L' B' A' ys) (hB : B ≤ w.heap.size) (hB' : B' ≤ w.heap.size) (hBN : B ≤ N) (hBN' : B' ≤ N) :
    Tells N (fun _ => True) w 112 (.agg #[.slice A 4096 c, .slice A' 4096 c']) (fun x0 x1 => bits .xor .i64 (xs.getD (64 * x0 + x1).toNat 0) (ys.getD (64 * x0 + x1).toNat 0)) := by
  intro x0 x1 W h0 h1 hb hz _
  refine (differentBits_any L B L' B' A A' c c' 4096 xs ys x0 x1 W rfl hl hl' (hx.below hb hBN) (hy.below hb hBN') (Nat.le_trans hB hz) (Nat.le_trans hB' hz) h0 h1).mono ?_
  rintro e W' ⟨rfl, hb'⟩
  have e1 : (64 * (x0 : Int) + (x1 : Int)).toNat = 64 * x0 + x1 := by omega
  refine ⟨?_, trivial, none, grownBy_of_below hb' none, fun k hk => by cases hk⟩
  show Ending.returned (.int .i64 _) = Ending.returned (.int .i64 (bits .xor .i64 (xs.getD (64 * (x0 : Int) + (x1 : Int)).toNat 0) (ys.getD (64 * (x0 : Int) + (x1 : Int)).toNat 0)))
  rw [e1]

set_option maxHeartbeats 2000000 in
theorem valueWith_any (L B : Nat) (A : Option Addr) (c n : Nat) (xs : List Int) (k : Int) (wd x0 x1 : Nat) (w : World) (hn : n = 4096) (hl : xs.length = n) (hx : IS w L B A xs) (hB : B ≤ w.heap.size) (hwd : wd < 64) (h0 : x0 < 64) (h1 : x1 < 64) :
    Calls Try.prog 125 #[.agg #[.slice A n c, .int .i64 k], .int .i64 wd, .int .i64 x0, .int .i64 x1] w fun e w' => e = .returned (.int .i64 (xs.getD (if k = 0 then 64 * wd + x1 else 64 * x0 + wd) 0)) ∧ Below w.heap.size w w' := by
  have HX := Lib.hid fun (W : World) (hW : Below w.heap.size w W) => at_any L B A c n xs wd x1 W hn hl (hx.below hW hB) hwd h1
  have HY := Lib.hid fun (W : World) (hW : Below w.heap.size w W) => at_any L B A c n xs x0 wd W hn hl (hx.below hW hB) h0 hwd
  have hb := Lib.hid ((Below.refl w.heap.size w).alloc (Nat.le_refl _) (.cells #[.slice A n c, .int .i64 k] 118))
  clear hx hB hl hn
  by_cases hk : k = 0
  · subst hk
    have hq := Lib.hid (if_pos rfl : (if (0 : Int) = 0 then 64 * wd + x1 else 64 * x0 + wd) = _)
    rw [hq.out]
    generalize xs.getD (64 * wd + x1) 0 = p at *
    clear hq HY
    go_enter Try.func125, Try.ntmps125
    go_wp2_with (fail)
    refine (HX.out _ hb.out).mono ?_
    rintro e w' ⟨rfl, rfl⟩
    go_wp2
    go_ret
    exact ⟨rfl, hb.out⟩
  · have hq := Lib.hid (if_neg hk : (if k = 0 then 64 * wd + x1 else 64 * x0 + wd) = _)
    rw [hq.out]
    generalize xs.getD (64 * x0 + wd) 0 = p at *
    clear hq HX
    go_enter Try.func125, Try.ntmps125
    go_wp2_with (fail)
    refine (HY.out _ hb.out).mono ?_
    rintro e w' ⟨rfl, rfl⟩
    go_wp2
    go_ret
    exact ⟨rfl, hb.out⟩

set_option maxHeartbeats 4000000 in
theorem leastWord_any (L B : Nat) (A : Option Addr) (c n : Nat) (xs : List Int) (k : Int) (x0 x1 : Nat) (w : World) (hn : n = 4096) (hl : xs.length = n) (hx : IS w L B A xs) (hB : B ≤ w.heap.size) (hk : isK k = true) (h0 : x0 < 64) (h1 : x1 < 64) :
    Calls Try.prog 114 #[.agg #[.slice A n c, .int .i64 k], .int .i64 x0, .int .i64 x1] w fun e w' => e = .returned (.int .i64 (lwI xs k (64 * x0 + x1))) ∧ Below w.heap.size w w' := by
  have HV := Lib.hid fun (wd : Nat) (W : World) (hwd : wd < 64) (hW : Below w.heap.size w W) => valueWith_any L B A c n xs k wd x0 x1 W hn hl (hx.below hW hB) (Nat.le_trans hB hW.size) hwd h0 h1
  have HA := Lib.hid fun (W : World) (hW : Below w.heap.size w W) => at_any L B A c n xs x0 x1 W hn hl (hx.below hW hB) h0 h1
  obtain ⟨P, hPd⟩ : ∃ P : Nat → Bool, P = fun w => xs.getD (atW k (64 * x0 + x1) w) 0 != xs.getD (64 * x0 + x1) 0 := ⟨_, rfl⟩
  have hP : Hid (∀ wd, wd < 64 → (xs.getD (if k = 0 then 64 * wd + x1 else 64 * x0 + wd) 0 != xs.getD (64 * x0 + x1) 0) = P wd) := by
    intro wd hwd
    have e1 : (64 * x0 + x1) / 64 = x0 := by omega
    have e2 : (64 * x0 + x1) % 64 = x1 := by omega
    rw [hPd]; unfold atW; simp only
    rw [e1, e2]
    simp only [isK, Bool.or_eq_true, beq_iff_eq] at hk
    rcases hk with hk | hk <;> subst hk <;> rfl
  have hLW : Hid (lwI xs k (64 * x0 + x1) = firstI P 64) := by rw [hPd]; rfl
  rw [hLW.out]
  clear hPd
  generalize xs.getD (64 * x0 + x1) 0 = y at *
  generalize hvv : (fun wd => xs.getD (if k = 0 then 64 * wd + x1 else 64 * x0 + wd) 0) = vv at *
  have hVV : ∀ wd, xs.getD (if k = 0 then 64 * wd + x1 else 64 * x0 + wd) 0 = vv wd := fun wd => by rw [← hvv]
  simp only [hVV] at HV hP
  clear hVV hvv
  have hb := (Below.refl w.heap.size w).alloc (Nat.le_refl _) (.cells #[.slice A n c, .int .i64 k] 118)
  have hb0 := Lib.hid hb
  obtain ⟨g0, g1⟩ := two_cells w (.slice A n c) (.int .i64 k) 118
  have hG := Lib.hid (And.intro g0 g1)
  have hz0 : Hid (w.heap.size < (w.alloc (.cells #[.slice A n c, .int .i64 k] 118)).heap.size) := by unfold Hid; simp
  clear hx hB hl hn hk hb g0 g1
  go_enter Try.func114, Try.ntmps114
  go_wp2
  go_loopw [8] (fun i wr => ∃ q : Nat, q ≤ 64 ∧ i = .int .i64 q ∧ (∀ j, j < q → P j = false) ∧ Below w.heap.size w wr ∧ w.heap.size < wr.heap.size ∧ wr.cell? ⟨w.heap.size, 0, none⟩ = some (.slice A n c) ∧ wr.cell? ⟨w.heap.size, 1, none⟩ = some (.int .i64 k)) (fun i _ => 64 - (intOf i).toNat)
  case atStart => exact ⟨0, Nat.zero_le _, rfl, fun j hj => absurd hj (Nat.not_lt_zero _), hb0.out, hz0.out, hG.out.1, hG.out.2⟩
  case round =>
    obtain ⟨q, hq, rfl, hh, hbel, hz, c0, c1⟩ := hrel
    have hH := Lib.hid hh
    have hBL := Lib.hid hbel
    have hZ := Lib.hid hz
    clear hh hbel hz
    by_cases hlt : q < 64
    · have hq64 : (q : Int) < 64 := by omega
      have hdq : decide ((q : Int) < 64) = true := by simpa using hq64
      have hPq := Lib.hid (hP.out q hlt)
      have hV := Lib.hid fun (W : World) (hW : Below w.heap.size w W) => HV.out q W hlt hW
      have hbd := Lib.hid hBL.out.drew
      generalize vv q = p at *
      have hw0 : w.heap.size < wr.drew.heap.size := hZ.out
      go_wp2_with (fail)
      go_region_held3 (fun w' => w'.cell? ⟨w.heap.size, 0, none⟩ = some (.slice A n c) ∧ w'.cell? ⟨w.heap.size, 1, none⟩ = some (.int .i64 k))
        (first | exact ⟨c0, c1⟩ | exact ⟨(hb3.cell hw0).trans c0, (hb3.cell hw0).trans c1⟩ | go_keep)
        ((first
          | (go_at_call 125; refine (hV.out _ hbd.out).mono ?_; rintro e w3 ⟨rfl, hb3⟩)
          | (go_at_call 116; refine (HA.out _ (by first | exact hbd.out | exact hbd.out.trans (hb3.mono hbd.out.size))).mono ?_; rintro e w' ⟨rfl, rfl⟩)))
      all_goals
        have hb4 := Lib.hid (hbd.out.trans (hb3.mono hbd.out.size))
        have hz4 := Lib.hid (Nat.lt_of_lt_of_le hw0 hb3.size)
        have d0 := Lib.hid ((hb3.cell hw0).trans c0)
        have d1 := Lib.hid ((hb3.cell hw0).trans c1)
        clear hb3 c0 c1 hw0
        cases hpy : (p != y)
        · go_wp2
          go_roundw
          case rel => exact ⟨q + 1, by omega, by go_num, fun j hj => by
            by_cases e : j = q
            · rw [e, ← hPq.out]; exact hpy
            · exact hH.out j (by omega), hb4.out, hz4.out, d0.out, d1.out⟩
          case measure => simp [intOf]; omega
        · go_wp2
          go_ret
          exact ⟨ret_int (by rw [firstI_some hlt (by rw [← hPq.out]; exact hpy) hH.out]), hb4.out⟩
    · obtain rfl : q = 64 := by omega
      go_wp2
      go_ret
      exact ⟨ret_int (by rw [firstI_none hH.out]), hBL.out⟩

end Go.Proofs.Ytcfmfbgnfpgpgaa
