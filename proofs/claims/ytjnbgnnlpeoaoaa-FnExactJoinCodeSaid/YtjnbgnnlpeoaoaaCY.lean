import Derived.Test.YtjnbgnnlpeoaoaaCX
import Derived.WalkKit
import Derived.WalkSpells
import Derived.WalkLawsBesides
import Derived.Deep.RegionHeld3
import Derived.Lib.Hide
namespace Go.Proofs.Ytjnbgnnlpeoaoaa
open Go.RowKit
set_option linter.unusedVariables false
set_option maxRecDepth 100000

/-- l1Has and slices.Contains over a slice of ints. -/
def hasI (xs : List Int) (n : Int) : Bool := xs.any fun x => x == n
theorem hasI_snoc {xs : List Int} {n : Int} {k : Nat} (hlt : k < xs.length) : hasI (xs.take (k+1)) n = (hasI (xs.take k) n || (xs[k] == n)) := by
  unfold hasI; rw [List.take_succ_eq_append_getElem hlt, List.any_append]; simp
theorem hasI_of {xs : List Int} {n : Int} {k : Nat} (h : hasI (xs.take k) n = true) : hasI xs n = true := by
  unfold hasI at *; rw [List.any_eq_true] at h ⊢; obtain ⟨x, hx, h⟩ := h; exact ⟨x, List.mem_of_mem_take hx, h⟩

theorem l1Has_any (L B : Nat) (A : Option Addr) (c : Nat) (xs : List Int) (n : Int) (w : World) (hl : xs.length ≤ 1000000) (hx : IS w L B A xs) :
    Calls Try.prog 102 #[.slice A xs.length c, .int .i64 n] w fun e w' => e = .returned (.bool (hasI xs n)) ∧ w = w' := by
  have hX := Lib.hid hx; clear hx
  go_enter Try.func102, Try.ntmps102
  go_wp2
  go_loop [6, 9] (fun _ i => ∃ k : Nat, k ≤ xs.length ∧ i = .int .i64 k ∧ hasI (xs.take k) n = false) (fun _ i => xs.length - (intOf i).toNat)
  case atStart => exact ⟨0, Nat.zero_le _, rfl, rfl⟩
  case round =>
    obtain ⟨k, hk, rfl, hh⟩ := hrel
    have hH := Lib.hid hh; clear hh
    by_cases hlt : k < xs.length
    · obtain ⟨b, o, rfl, _, hc⟩ := hX.out (by omega)
      have hcell := hc k hlt
      clear hc
      have hS := Lib.hid (hasI_snoc (n := n) hlt)
      go_wp2
      · go_ret
        exact ⟨ret_bool (hasI_of (k := k + 1) (by rw [hS.out, hH.out]; simp [*])).symm, rfl⟩
      · go_round
        case rel => exact ⟨k + 1, by omega, by go_num, by rw [hS.out, hH.out]; simp [*]⟩
        case measure => simp [intOf]; omega
    · obtain rfl : k = xs.length := by omega
      go_wp2
      go_ret
      exact ⟨ret_bool (by have := hH.out; rw [List.take_length] at this; rw [this]), rfl⟩

def SomeIdx (xs : List Int) (n : Int) (w : World) (e : Ending) (w' : World) : Prop := ∃ k : Int, e = .returned (.int .i64 k) ∧ decide (0 ≤ k) = hasI xs n ∧ w = w'
theorem Index_any (L B : Nat) (A : Option Addr) (c : Nat) (xs : List Int) (n : Int) (w : World) (hl : xs.length ≤ 1000000) (hx : IS w L B A xs) :
    Calls Try.prog 135 #[.slice A xs.length c, .int .i64 n] w (SomeIdx xs n w) := by
  have hX := Lib.hid hx; clear hx
  go_enter Try.func135, Try.ntmps135
  go_wp2
  go_loop [5, 8] (fun _ i => ∃ k : Nat, k ≤ xs.length ∧ i = .int .i64 k ∧ hasI (xs.take k) n = false) (fun _ i => xs.length - (intOf i).toNat)
  case atStart => exact ⟨0, Nat.zero_le _, rfl, rfl⟩
  case round =>
    obtain ⟨k, hk, rfl, hh⟩ := hrel
    have hH := Lib.hid hh; clear hh
    by_cases hlt : k < xs.length
    · obtain ⟨b, o, rfl, _, hc⟩ := hX.out (by omega)
      have hcell := hc k hlt
      clear hc
      have hS := Lib.hid (hasI_snoc (n := n) hlt)
      go_wp2
      · go_ret
        refine ⟨k, rfl, ?_, rfl⟩
        have : hasI xs n = true := hasI_of (k := k + 1) (by rw [hS.out, hH.out]; simp_all <;> omega)
        rw [this]; simp
      · go_round
        case rel => exact ⟨k + 1, by omega, by go_num, by rw [hS.out, hH.out]; simp_all <;> omega⟩
        case measure => simp [intOf]; omega
    · obtain rfl : k = xs.length := by omega
      go_wp2
      go_ret
      exact ⟨-1, rfl, by have := hH.out; rw [List.take_length] at this; rw [this]; rfl, rfl⟩
theorem Contains_any (L B : Nat) (A : Option Addr) (c : Nat) (xs : List Int) (n : Int) (w : World) (hl : xs.length ≤ 1000000) (hx : IS w L B A xs) :
    Calls Try.prog 127 #[.slice A xs.length c, .int .i64 n] w fun e w' => e = .returned (.bool (hasI xs n)) ∧ w = w' := by
  have H := Lib.hid (Index_any L B A c xs n w hl hx); clear hx
  go_enter Try.func127, Try.ntmps127
  go_wp2_with (fail)
  refine H.out.mono ?_
  rintro e w' ⟨k, rfl, hk, rfl⟩
  have hK := Lib.hid hk; clear hk
  go_wp2
  go_ret
  exact ⟨ret_bool hK.out, rfl⟩

theorem l1Has_eq (L B : Nat) (A : Option Addr) (m c : Nat) (xs : List Int) (n : Int) (w : World) (hm : m = xs.length) (hl : xs.length ≤ 1000000) (hx : IS w L B A xs) :
    Calls Try.prog 102 #[.slice A m c, .int .i64 n] w fun e w' => e = .returned (.bool (hasI xs n)) ∧ w = w' := by
  subst hm; exact l1Has_any L B A c xs n w hl hx
theorem Contains_eq (L B : Nat) (A : Option Addr) (m c : Nat) (xs : List Int) (n : Int) (w : World) (hm : m = xs.length) (hl : xs.length ≤ 1000000) (hx : IS w L B A xs) :
    Calls Try.prog 127 #[.slice A m c, .int .i64 n] w fun e w' => e = .returned (.bool (hasI xs n)) ∧ w = w' := by
  subst hm; exact Contains_any L B A c xs n w hl hx
theorem l1Has_lit (L B : Nat) (A : Option Addr) (m c : Nat) (xs : List Int) (n : Int) (r : Bool) (w : World) (hr : hasI xs n = r) (hm : m = xs.length) (hl : xs.length ≤ 1000000) (hx : IS w L B A xs) :
    Calls Try.prog 102 #[.slice A m c, .int .i64 n] w fun e w' => e = .returned (.bool r) ∧ w = w' := by
  subst hr; exact l1Has_eq L B A m c xs n w hm hl hx
def readsR (x : In) : List Int := if goodIn x = true then readsL x else []
theorem readsR_len (x : In) : (readsR x).length ≤ 1048576 := by
  unfold readsR; split
  · have := readsL_len x; omega
  · simp

theorem sReadsOf_any (x : In) (w : World) :
    Calls Try.prog 49 #[.agg #[.string x.op, .int .i64 x.d, .int .i64 x.a, .int .i64 x.b, .int .i64 x.m]] w (ResReadsOf (readsR x) (goodIn x) w) := by
  have hRd := Lib.hid (cdReads_any x)
  obtain ⟨op, d, a, b, m⟩ := x
  have hB1 := fun o => (Below.refl w.heap.size w).alloc (Nat.le_refl _) o
  go_enter Try.func49, Try.ntmps49
  go_wp2_with (fail)
  refine (cdGood_any _ _ _ _ _ _).mono ?_
  rintro e w2 ⟨rfl, hb⟩
  obtain ⟨xa, xb, xc, xd, xe⟩ := In.old (x := ⟨op, d, a, b, m⟩) rfl hb
  have hbb := Lib.hid ((hB1 _).trans (hb.mono (by simp)))
  clear hb
  cases hg : goodIn ⟨op, d, a, b, m⟩
  · have hR : Hid (readsR ⟨op, d, a, b, m⟩ = []) := by simp [Hid, readsR, hg]
    have hK := Lib.hid hg
    go_wp2
    go_ret2
    rw [hR.out, hK.out]; exact ⟨none, 0, rfl, OW.nil _ _ _, hbb.out⟩
  · have hR : Hid (readsR ⟨op, d, a, b, m⟩ = readsL ⟨op, d, a, b, m⟩) := by simp [Hid, readsR, hg]
    have hK := Lib.hid hg
    go_wp2_with (fail)
    refine (hRd.out _).mono ?_
    rintro e w3 ⟨A3, c3, rfl, ho3, hb3⟩
    have hO := Lib.hid (ho3.lower hbb.out.size)
    have hB := Lib.hid (hbb.out.trans (hb3.mono hbb.out.size))
    clear ho3 hb3
    go_wp2
    go_ret2
    rw [hR.out, hK.out]; exact ⟨_, _, rfl, hO.out, hB.out⟩

theorem iReadsOf_any (x : In) (w : World) :
    Calls Try.prog 50 #[.agg #[.string x.op, .int .i64 x.d, .int .i64 x.a, .int .i64 x.b, .int .i64 x.m]] w (ResReadsOf (readsR x) (goodIn x) w) := by
  have hRd := Lib.hid (readsOf_any x)
  obtain ⟨op, d, a, b, m⟩ := x
  have hB1 := fun o => (Below.refl w.heap.size w).alloc (Nat.le_refl _) o
  go_enter Try.func50, Try.ntmps50
  go_wp2_with (fail)
  refine (IsInstr_any _ _ _ _ _ _).mono ?_
  rintro e w2 ⟨rfl, hb⟩
  obtain ⟨xa, xb, xc, xd, xe⟩ := In.old (x := ⟨op, d, a, b, m⟩) rfl hb
  have hbb := Lib.hid ((hB1 _).trans (hb.mono (by simp)))
  clear hb
  cases hg : goodIn ⟨op, d, a, b, m⟩
  · have hR : Hid (readsR ⟨op, d, a, b, m⟩ = []) := by simp [Hid, readsR, hg]
    have hK := Lib.hid hg
    go_wp2
    go_ret2
    rw [hR.out, hK.out]; exact ⟨none, 0, rfl, OW.nil _ _ _, hbb.out⟩
  · have hR : Hid (readsR ⟨op, d, a, b, m⟩ = readsL ⟨op, d, a, b, m⟩) := by simp [Hid, readsR, hg]
    have hK := Lib.hid hg
    go_wp2_with (fail)
    refine (hRd.out _).mono ?_
    rintro e w3 ⟨A3, c3, rfl, ho3, hb3⟩
    have hO := Lib.hid (ho3.lower hbb.out.size)
    have hB := Lib.hid (hbb.out.trans (hb3.mono hbb.out.size))
    clear ho3 hb3
    go_wp2
    go_ret2
    rw [hR.out, hK.out]; exact ⟨_, _, rfl, hO.out, hB.out⟩

/-- Whether two instructions are independent. -/
def freeB (x y : In) : Bool := !(x.d == y.d) && !hasI (readsL x) y.d && !hasI (readsL y) x.d
/-- Whether x writes what y reads or writes. -/
def touchB (x y : In) : Bool := x.d == y.d || hasI (readsL y) x.d
theorem free_touch (x y : In) : freeB x y = (!touchB x y && !touchB y x) := by
  unfold freeB touchB
  have : (y.d == x.d) = (x.d == y.d) := by rw [Bool.eq_iff_iff]; simp; exact eq_comm
  rw [this]
  cases x.d == y.d <;> cases hasI (readsL x) y.d <;> cases hasI (readsL y) x.d <;> rfl
set_option maxHeartbeats 4000000 in
theorem isTouching_any (x y : In) (w : World) :
    Calls Try.prog 110 #[.agg #[.string x.op, .int .i64 x.d, .int .i64 x.a, .int .i64 x.b, .int .i64 x.m], .agg #[.string y.op, .int .i64 y.d, .int .i64 y.a, .int .i64 y.b, .int .i64 y.m]] w fun e w' => e = .returned (.bool (touchB x y)) ∧ Below w.heap.size w w' := by
  have hT : Hid (touchB x y = (x.d == y.d || hasI (readsL y) x.d)) := rfl
  have hRd := Lib.hid (readsOf_any y)
  have hRl := Lib.hid (readsL_len y)
  generalize touchB x y = T at *
  generalize readsL y = R at *
  obtain ⟨op, d, a, b, m⟩ := x
  obtain ⟨op', d', a', b', m'⟩ := y
  simp only at hT hRd
  have hB2 := fun o o' => Lib.hid (((Below.refl w.heap.size w).alloc (Nat.le_refl _) o).alloc (by simp) o')
  by_cases h : d = d'
  · have hE : (d == d') = true := by simp [h]
    have hF : Hid (T = true) := by rw [Hid, hT.out, hE]; rfl
    clear h
    go_enter Try.func110, Try.ntmps110
    go_wp2_with (fail)
    go_quiet (fail)
    go_wp2
    go_ret
    exact ⟨ret_bool hF.out.symm, below_drewN (hB2 _ _).out _⟩
  · have hE : (d == d') = false := by simp [h]
    have hF : Hid (T = hasI R d) := by rw [Hid, hT.out, hE]; rfl
    clear h
    go_enter Try.func110, Try.ntmps110
    go_wp2_with (fail)
    obtain ⟨w1, hw1⟩ : ∃ w1 : World, w1 = (w.alloc (.cells #[.string op, .int .i64 d, .int .i64 a, .int .i64 b, .int .i64 m] 26)).alloc (.cells #[.string op', .int .i64 d', .int .i64 a', .int .i64 b', .int .i64 m'] 26) := ⟨_, rfl⟩
    rw [← hw1]
    obtain ⟨xa, xb, xc, xd, xe⟩ := In.box (RS.below (In.boxed (w := w) (t := 26) ⟨op, d, a, b, m⟩) (show Below (w.heap.size + 1) _ w1 by rw [hw1]; exact (Below.refl _ _).alloc (by simp) _) (by omega))
    have hy := In.boxed (w := w.alloc (.cells #[.string op, .int .i64 d, .int .i64 a, .int .i64 b, .int .i64 m] 26)) (t := 26) ⟨op', d', a', b', m'⟩
    rw [show (w.alloc (.cells #[.string op, .int .i64 d, .int .i64 a, .int .i64 b, .int .i64 m] 26)).heap.size = w.heap.size + 1 by simp, ← hw1] at hy
    obtain ⟨ya, yb, yc, yd, ye⟩ := In.box hy
    have hbw : Hid (Below w.heap.size w w1) := by rw [hw1]; exact (hB2 _ _).out
    have hz : w1.heap.size = w.heap.size + 2 := by rw [hw1]; simp
    have hz1 : w.heap.size < w1.heap.size := by omega
    have hz2 : w.heap.size + 1 < w1.heap.size := by omega
    clear hw1 hy hz
    simp only at xa xb xc xd xe ya yb yc yd ye
    go_region_held3 (fun w' => w'.cell? ⟨w.heap.size, 1, none⟩ = some (.int .i64 d) ∧ w'.cell? ⟨w.heap.size + 1, 0, none⟩ = some (.string op') ∧ w'.cell? ⟨w.heap.size + 1, 1, none⟩ = some (.int .i64 d') ∧ w'.cell? ⟨w.heap.size + 1, 2, none⟩ = some (.int .i64 a') ∧ w'.cell? ⟨w.heap.size + 1, 3, none⟩ = some (.int .i64 b') ∧ w'.cell? ⟨w.heap.size + 1, 4, none⟩ = some (.int .i64 m'))
      (first | exact ⟨xb, ya, yb, yc, yd, ye⟩ | exact ⟨(hb2.cell hz1).trans xb, (hb2.cell hz2).trans ya, (hb2.cell hz2).trans yb, (hb2.cell hz2).trans yc, (hb2.cell hz2).trans yd, (hb2.cell hz2).trans ye⟩ | go_keep)
      ((first
        | (go_at_call 94; refine (hRd.out _).mono ?_; rintro e w2 ⟨A2, c2, rfl, ho2, hb2⟩)
        | (go_at_call 127; refine (Contains_eq _ _ _ _ _ _ _ _ rfl (by have := hRl.out; omega) (by exact ho2.rs)).mono ?_; rintro e w' ⟨rfl, rfl⟩)))
    have hfin := Lib.hid (hbw.out.drew.trans (hb2.mono hbw.out.size))
    clear hb2 ho2
    go_wp2
    go_ret
    exact ⟨ret_bool hF.out.symm, hfin.out⟩

end Go.Proofs.Ytjnbgnnlpeoaoaa
