/- Texts of this proof, one behind the other: CX, HI, CY, CZ3, RN, RO. -/
import Derived.Test.YthjfedidpjfboaaZ14
import Derived.WalkKit
import Derived.WalkSpells
import Derived.WalkLawsBesides
import Derived.Lib.Hide
import Derived.Test.YthjfedidpjfboaaRows
import Derived.Test.YthjfedidpjfboaaN
import Derived.Deep.RegionHeld3
namespace Go.Proofs.Ythjfedidpjfboaa
open Go.RowKit
set_option linter.unusedVariables false
set_option maxRecDepth 100000

/-- Five cells of a block. -/
theorem five_cells {w : World} {g : Nat} {t : TypeId} {a b c d e : Value} (h : w.heap[g]? = some (.cells #[a, b, c, d, e] t (0, 0))) :
    w.cell? ⟨g, 0, none⟩ = some a ∧ w.cell? ⟨g, 1, none⟩ = some b := by
  have hc := fun i => cell_of_row w g i #[a, b, c, d, e] t (0, 0) h
  exact ⟨hc 0, hc 1⟩
/-- Behind an append onto nil: what lay there reads as it did. -/
theorem cell_grown {w w' : World} {row : Option Nat} {p : Addr} {v : Value} (h : w.grownBy w' row) (hp : row = none) (hc : w.cell? p = some v) : w'.cell? p = some v :=
  h.cell hc (by rw [hp]; simp)
theorem keep2 {w2 w4 : World} {o1 o2 : Obj} (h : ((w2.alloc o1).alloc o2).grownBy w4 none) : Below w2.heap.size w2 w4 :=
  (((Below.refl w2.heap.size w2).alloc (Nat.le_refl _) o1).alloc (by simp) o2).grown h (by simp; omega) (fun j hj => by cases hj)
theorem blk2 {w2 w4 : World} {o1 o2 : Obj} (h : ((w2.alloc o1).alloc o2).grownBy w4 none) : w4.heap[w2.heap.size]? = some o1 :=
  (h.block w2.heap.size (by simp; omega) (by simp)).trans ((Below.heap_alloc _ _ _ (by simp)).trans (heap_alloc_new w2 o1))
set_option maxHeartbeats 4000000 in
theorem readsOf_any (x : In) (w : World) :
    Calls Try.prog 154 #[.agg #[.string x.op, .int .i64 x.d, .int .i64 x.a, .int .i64 x.b, .int .i64 x.m]] w (OwnI w.heap.size w (readsL x)) := by
  obtain ⟨i0, hi', hz0, hz1, hz2⟩ := info_parts Try.infoInt
  have hRL : Hid (readsL x = Lib.compact (sorted (reads2 (fm x.op).a (fm x.op).b x.a x.b))) := rfl
  obtain ⟨op, d, a, b, m⟩ := x
  generalize readsL ⟨op, d, a, b, m⟩ = R at *
  simp only at hRL
  have hB1 := fun o => (Below.refl w.heap.size w).alloc (Nat.le_refl _) o
  go_enter Try.func154, Try.ntmps154
  go_wp2_with (fail)
  refine (formOf_any _ _).mono ?_
  rintro e w2 ⟨rfl, hb⟩
  obtain ⟨xa, xb, xc, xd, xe⟩ := In.old (x := ⟨op, d, a, b, m⟩) rfl hb
  have hbb := Lib.hid ((hB1 _).trans (hb.mono (by simp)))
  have hz : w.heap.size < w2.heap.size := by have := hb.size; simp at this; omega
  clear hb hB1
  generalize fm op = f at *
  obtain ⟨ok, fa, fb, lo, hi, cc⟩ := f
  simp only [fmV]
  simp only at hRL
  have hbo := fun o => Lib.hid (hbb.out.alloc hbb.out.size o)
  cases fa
  · cases fb
    · have hR : Hid (R = Lib.compact (sorted [])) := hRL.out
      go_wp2_with (fail)
      refine (sortOwn_any w.heap.size _ none 0 0 [] _ rfl (by simp) (OW.nil _ w.heap.size w2.heap.size)).mono ?_
      rintro e w6 ⟨rfl, ho6, hc6⟩
      have hO6 := Lib.hid ho6
      have hb6 := Lib.hid (below_chg (hbo _).out hc6 (hbo _).out.size (Nat.le_refl _))
      clear ho6 hc6
      go_wp2_with (fail)
      refine (compactOwn_any w.heap.size _ _ _ _ _ _ (sorted_len _).symm (by rw [sorted_len]; simp) hO6.out).mono ?_
      rintro e w7 ⟨rfl, ho7, hc7⟩
      have hb7 := Lib.hid (below_chg hb6.out hc7 hb6.out.size (Nat.le_refl _))
      rw [show Lib.compact (sorted []) = R from hR.out.symm] at ho7 ⊢
      have hO7 := Lib.hid ho7
      clear ho7 hc7
      go_wp2
      go_ret
      exact ⟨_, _, rfl, ⟨hO7.out.1, fun j hj => (hO7.out.1.lt j hj).2⟩, hb7.out⟩
    · have hR : Hid (R = Lib.compact (sorted [b])) := hRL.out
      go_wp2_with (at_builtin; refine wpList_append_own _ rfl (.tmp 21) (.tmp 24) 32 rfl w.heap.size 3 i0 (.int .i64 0) 1 8 Try.underlying32 hi' hz0 hz1 hz2 rfl (by decide) (.slice none 0 0) 0 [] rfl (World.ownsRow_nil _ _ _ _) ⟨w2.heap.size + 1, 0, none⟩ 1 1 [.int .i64 b] rfl rfl (new1 (by simp)) (one1 _) (by unfold maxLen; omega) (by omega) (by simp; omega) ?_; intro v1 w4 hown1 hgr1 _; simp only [Nat.zero_add, List.nil_append] at hown1; have hb4 := Lib.hid (keep2 hgr1); obtain ⟨f0, f1⟩ := five_cells (blk2 hgr1); have xd4 := (hb4.out.cell (p := ⟨w.heap.size, 3, none⟩) hz).trans xd; have hz4 := hb4.out.size)
      have hO4 := Lib.hid (OW.ofRow (xs := [b]) hown1 rfl)
      obtain ⟨A4, c4, rfl, _⟩ := hO4.out.form
      have hbel4 := Lib.hid (hbb.out.trans (hb4.out.mono hbb.out.size))
      refine (sortOwn_any w.heap.size _ A4 1 c4 [b] _ rfl (by simp) hO4.out).mono ?_
      rintro e w6 ⟨rfl, ho6, hc6⟩
      have hO6 := Lib.hid ho6
      have hb6 := Lib.hid (below_chg hbel4.out hc6 hbel4.out.size (Nat.le_refl _))
      clear ho6 hc6
      go_wp2_with (fail)
      refine (compactOwn_any w.heap.size _ _ _ _ _ _ (sorted_len _).symm (by rw [sorted_len]; simp) hO6.out).mono ?_
      rintro e w7 ⟨rfl, ho7, hc7⟩
      have hb7 := Lib.hid (below_chg hb6.out hc7 hb6.out.size (Nat.le_refl _))
      rw [show Lib.compact (sorted [b]) = R from hR.out.symm] at ho7 ⊢
      have hO7 := Lib.hid ho7
      clear ho7 hc7
      go_wp2
      go_ret
      exact ⟨_, _, rfl, ⟨hO7.out.1, fun j hj => (hO7.out.1.lt j hj).2⟩, hb7.out⟩
  · cases fb
    · have hR : Hid (R = Lib.compact (sorted [a])) := hRL.out
      go_wp2_with (at_builtin; refine wpList_append_own _ rfl (.tmp 14) (.tmp 17) 32 rfl w.heap.size 3 i0 (.int .i64 0) 1 8 Try.underlying32 hi' hz0 hz1 hz2 rfl (by decide) (.slice none 0 0) 0 [] rfl (World.ownsRow_nil _ _ _ _) ⟨w2.heap.size + 1, 0, none⟩ 1 1 [.int .i64 a] rfl rfl (new1 (by simp)) (one1 _) (by unfold maxLen; omega) (by omega) (by simp; omega) ?_; intro v1 w4 hown1 hgr1 _; simp only [Nat.zero_add, List.nil_append] at hown1; have hb4 := Lib.hid (keep2 hgr1); obtain ⟨f0, f1⟩ := five_cells (blk2 hgr1); have xd4 := (hb4.out.cell (p := ⟨w.heap.size, 3, none⟩) hz).trans xd; have hz4 := hb4.out.size)
      have hO4 := Lib.hid (OW.ofRow (xs := [a]) hown1 rfl)
      obtain ⟨A4, c4, rfl, _⟩ := hO4.out.form
      have hbel4 := Lib.hid (hbb.out.trans (hb4.out.mono hbb.out.size))
      refine (sortOwn_any w.heap.size _ A4 1 c4 [a] _ rfl (by simp) hO4.out).mono ?_
      rintro e w6 ⟨rfl, ho6, hc6⟩
      have hO6 := Lib.hid ho6
      have hb6 := Lib.hid (below_chg hbel4.out hc6 hbel4.out.size (Nat.le_refl _))
      clear ho6 hc6
      go_wp2_with (fail)
      refine (compactOwn_any w.heap.size _ _ _ _ _ _ (sorted_len _).symm (by rw [sorted_len]; simp) hO6.out).mono ?_
      rintro e w7 ⟨rfl, ho7, hc7⟩
      have hb7 := Lib.hid (below_chg hb6.out hc7 hb6.out.size (Nat.le_refl _))
      rw [show Lib.compact (sorted [a]) = R from hR.out.symm] at ho7 ⊢
      have hO7 := Lib.hid ho7
      clear ho7 hc7
      go_wp2
      go_ret
      exact ⟨_, _, rfl, ⟨hO7.out.1, fun j hj => (hO7.out.1.lt j hj).2⟩, hb7.out⟩
    · have hR : Hid (R = Lib.compact (sorted [a, b])) := hRL.out
      go_wp2_with (first
        | (at_builtin; refine wpList_append_own _ rfl (.tmp 14) (.tmp 17) 32 rfl w.heap.size 3 i0 (.int .i64 0) 1 8 Try.underlying32 hi' hz0 hz1 hz2 rfl (by decide) (.slice none 0 0) 0 [] rfl (World.ownsRow_nil _ _ _ _) ⟨w2.heap.size + 1, 0, none⟩ 1 1 [.int .i64 a] rfl rfl (new1 (by simp)) (one1 _) (by unfold maxLen; omega) (by omega) (by simp; omega) ?_; intro v1 w4 hown1 hgr1 _; simp only [Nat.zero_add, List.nil_append] at hown1; have hb4 := Lib.hid (keep2 hgr1); obtain ⟨f0, f1⟩ := five_cells (blk2 hgr1); have xd4 := (hb4.out.cell (p := ⟨w.heap.size, 3, none⟩) hz).trans xd; have hz4 := hb4.out.size)
        | (at_builtin; refine wpList_append_own _ rfl (.tmp 21) (.tmp 24) 32 rfl w.heap.size 3 i0 (.int .i64 0) 1 8 Try.underlying32 hi' hz0 hz1 hz2 rfl (by decide) v1 1 _ rfl (hown1.alloc _) ⟨w4.heap.size, 0, none⟩ 1 1 [.int .i64 b] rfl rfl (new1 rfl) (one1 _) (by unfold maxLen; omega) (by omega) (by simp; omega) ?_; intro v2 w5 hown2 hgr2 _; simp only [List.singleton_append, Nat.reduceAdd] at hown2; have hb5 := Lib.hid (((hbb.out.trans (hb4.out.mono hbb.out.size)).alloc (by omega) _).grown hgr2 (by simp; omega) (fun j hj => (hown1.lt j hj).1))))
      have hO5 := Lib.hid (OW.ofRow (xs := [a, b]) hown2 rfl)
      obtain ⟨A5, c5, rfl, _⟩ := hO5.out.form
      refine (sortOwn_any w.heap.size _ A5 2 c5 [a, b] _ rfl (by simp) hO5.out).mono ?_
      rintro e w6 ⟨rfl, ho6, hc6⟩
      have hO6 := Lib.hid ho6
      have hb6 := Lib.hid (below_chg hb5.out hc6 hb5.out.size (Nat.le_refl _))
      clear ho6 hc6
      go_wp2_with (fail)
      refine (compactOwn_any w.heap.size _ _ _ _ _ _ (sorted_len _).symm (by rw [sorted_len]; simp) hO6.out).mono ?_
      rintro e w7 ⟨rfl, ho7, hc7⟩
      have hb7 := Lib.hid (below_chg hb6.out hc7 hb6.out.size (Nat.le_refl _))
      rw [show Lib.compact (sorted [a, b]) = R from hR.out.symm] at ho7 ⊢
      have hO7 := Lib.hid ho7
      clear ho7 hc7
      go_wp2
      go_ret
      exact ⟨_, _, rfl, ⟨hO7.out.1, fun j hj => (hO7.out.1.lt j hj).2⟩, hb7.out⟩
end Go.Proofs.Ythjfedidpjfboaa

namespace Go.Proofs.Ythjfedidpjfboaa
open Go.RowKit
set_option linter.unusedVariables false

/-- l1Has and slices.Contains over a slice of ints. -/
def hasI (xs : List Int) (n : Int) : Bool := xs.any fun x => x == n
theorem hasI_snoc {xs : List Int} {n : Int} {k : Nat} (hlt : k < xs.length) : hasI (xs.take (k+1)) n = (hasI (xs.take k) n || (xs[k] == n)) := by
  unfold hasI; rw [List.take_succ_eq_append_getElem hlt, List.any_append]; simp
theorem hasI_of {xs : List Int} {n : Int} {k : Nat} (h : hasI (xs.take k) n = true) : hasI xs n = true := by
  unfold hasI at *; rw [List.any_eq_true] at h ⊢; obtain ⟨x, hx, h⟩ := h; exact ⟨x, List.mem_of_mem_take hx, h⟩

theorem l1Has_any (L B : Nat) (A : Option Addr) (c : Nat) (xs : List Int) (n : Int) (w : World) (hl : xs.length ≤ 1000000) (hx : IS w L B A xs) :
    Calls Try.prog 92 #[.slice A xs.length c, .int .i64 n] w fun e w' => e = .returned (.bool (hasI xs n)) ∧ w = w' := by
  have hX := Lib.hid hx; clear hx
  go_enter Try.func92, Try.ntmps92
  go_wp2
  go_loop [6, 9] (fun _ i => ∃ k : Nat, k ≤ xs.length ∧ i = .int .i64 k ∧ hasI (xs.take k) n = false) (fun _ i => xs.length - (intOf i).toNat)
  case atStart => exact ⟨0, Nat.zero_le _, rfl, rfl⟩
  case round =>
    obtain ⟨k, hk, rfl, hh⟩ := hrel
    have hH := Lib.hid hh; clear hh
    by_cases hlt : k < xs.length
    · obtain ⟨b, o, rfl, _, hc⟩ := hX.out (by omega)
      have hcell := hc k hlt
      clear hc
      have hS := Lib.hid (hasI_snoc (n := n) hlt)
      go_wp2
      · go_ret
        exact ⟨ret_bool (hasI_of (k := k + 1) (by rw [hS.out, hH.out]; simp [*])).symm, rfl⟩
      · go_round
        case rel => exact ⟨k + 1, by omega, by go_num, by rw [hS.out, hH.out]; simp [*]⟩
        case measure => simp [intOf]; omega
    · obtain rfl : k = xs.length := by omega
      go_wp2
      go_ret
      exact ⟨ret_bool (by have := hH.out; rw [List.take_length] at this; rw [this]), rfl⟩

def SomeIdx (xs : List Int) (n : Int) (w : World) (e : Ending) (w' : World) : Prop := ∃ k : Int, e = .returned (.int .i64 k) ∧ decide (0 ≤ k) = hasI xs n ∧ w = w'
theorem Index_any (L B : Nat) (A : Option Addr) (c : Nat) (xs : List Int) (n : Int) (w : World) (hl : xs.length ≤ 1000000) (hx : IS w L B A xs) :
    Calls Try.prog 179 #[.slice A xs.length c, .int .i64 n] w (SomeIdx xs n w) := by
  have hX := Lib.hid hx; clear hx
  go_enter Try.func179, Try.ntmps179
  go_wp2
  go_loop [5, 8] (fun _ i => ∃ k : Nat, k ≤ xs.length ∧ i = .int .i64 k ∧ hasI (xs.take k) n = false) (fun _ i => xs.length - (intOf i).toNat)
  case atStart => exact ⟨0, Nat.zero_le _, rfl, rfl⟩
  case round =>
    obtain ⟨k, hk, rfl, hh⟩ := hrel
    have hH := Lib.hid hh; clear hh
    by_cases hlt : k < xs.length
    · obtain ⟨b, o, rfl, _, hc⟩ := hX.out (by omega)
      have hcell := hc k hlt
      clear hc
      have hS := Lib.hid (hasI_snoc (n := n) hlt)
      go_wp2
      · go_ret
        refine ⟨k, rfl, ?_, rfl⟩
        have : hasI xs n = true := hasI_of (k := k + 1) (by rw [hS.out, hH.out]; simp_all <;> omega)
        rw [this]; simp
      · go_round
        case rel => exact ⟨k + 1, by omega, by go_num, by rw [hS.out, hH.out]; simp_all <;> omega⟩
        case measure => simp [intOf]; omega
    · obtain rfl : k = xs.length := by omega
      go_wp2
      go_ret
      exact ⟨-1, rfl, by have := hH.out; rw [List.take_length] at this; rw [this]; rfl, rfl⟩
theorem Contains_any (L B : Nat) (A : Option Addr) (c : Nat) (xs : List Int) (n : Int) (w : World) (hl : xs.length ≤ 1000000) (hx : IS w L B A xs) :
    Calls Try.prog 142 #[.slice A xs.length c, .int .i64 n] w fun e w' => e = .returned (.bool (hasI xs n)) ∧ w = w' := by
  have H := Lib.hid (Index_any L B A c xs n w hl hx); clear hx
  go_enter Try.func142, Try.ntmps142
  go_wp2_with (fail)
  refine H.out.mono ?_
  rintro e w' ⟨k, rfl, hk, rfl⟩
  have hK := Lib.hid hk; clear hk
  go_wp2
  go_ret
  exact ⟨ret_bool hK.out, rfl⟩

theorem l1Has_eq (L B : Nat) (A : Option Addr) (m c : Nat) (xs : List Int) (n : Int) (w : World) (hm : m = xs.length) (hl : xs.length ≤ 1000000) (hx : IS w L B A xs) :
    Calls Try.prog 92 #[.slice A m c, .int .i64 n] w fun e w' => e = .returned (.bool (hasI xs n)) ∧ w = w' := by
  subst hm; exact l1Has_any L B A c xs n w hl hx
theorem Contains_eq (L B : Nat) (A : Option Addr) (m c : Nat) (xs : List Int) (n : Int) (w : World) (hm : m = xs.length) (hl : xs.length ≤ 1000000) (hx : IS w L B A xs) :
    Calls Try.prog 142 #[.slice A m c, .int .i64 n] w fun e w' => e = .returned (.bool (hasI xs n)) ∧ w = w' := by
  subst hm; exact Contains_any L B A c xs n w hl hx
end Go.Proofs.Ythjfedidpjfboaa

namespace Go.Proofs.Ythjfedidpjfboaa
open Go.RowKit
set_option linter.unusedVariables false
set_option maxRecDepth 100000

theorem l1Has_lit (L B : Nat) (A : Option Addr) (m c : Nat) (xs : List Int) (n : Int) (r : Bool) (w : World) (hr : hasI xs n = r) (hm : m = xs.length) (hl : xs.length ≤ 1000000) (hx : IS w L B A xs) :
    Calls Try.prog 92 #[.slice A m c, .int .i64 n] w fun e w' => e = .returned (.bool r) ∧ w = w' := by
  subst hr; exact l1Has_eq L B A m c xs n w hm hl hx
def readsR (x : In) : List Int := if goodIn x = true then readsL x else []
theorem readsR_len (x : In) : (readsR x).length ≤ 1048576 := by
  unfold readsR; split
  · have := readsL_len x; omega
  · simp

/-- Whether two instructions are independent. -/
def freeB (x y : In) : Bool := !(x.d == y.d) && !hasI (readsL x) y.d && !hasI (readsL y) x.d
/-- Whether x writes what y reads or writes. -/
def touchB (x y : In) : Bool := x.d == y.d || hasI (readsL y) x.d
theorem free_touch (x y : In) : freeB x y = (!touchB x y && !touchB y x) := by
  unfold freeB touchB
  have : (y.d == x.d) = (x.d == y.d) := by rw [Bool.eq_iff_iff]; simp; exact eq_comm
  rw [this]
  cases x.d == y.d <;> cases hasI (readsL x) y.d <;> cases hasI (readsL y) x.d <;> rfl
set_option maxHeartbeats 4000000 in
theorem isTouching_any (x y : In) (w : World) :
    Calls Try.prog 203 #[.agg #[.string x.op, .int .i64 x.d, .int .i64 x.a, .int .i64 x.b, .int .i64 x.m], .agg #[.string y.op, .int .i64 y.d, .int .i64 y.a, .int .i64 y.b, .int .i64 y.m]] w fun e w' => e = .returned (.bool (touchB x y)) ∧ Below w.heap.size w w' := by
  have hT : Hid (touchB x y = (x.d == y.d || hasI (readsL y) x.d)) := rfl
  have hRd := Lib.hid (readsOf_any y)
  have hRl := Lib.hid (readsL_len y)
  generalize touchB x y = T at *
  generalize readsL y = R at *
  obtain ⟨op, d, a, b, m⟩ := x
  obtain ⟨op', d', a', b', m'⟩ := y
  simp only at hT hRd
  have hB2 := fun o o' => Lib.hid (((Below.refl w.heap.size w).alloc (Nat.le_refl _) o).alloc (by simp) o')
  by_cases h : d = d'
  · have hE : (d == d') = true := by simp [h]
    have hF : Hid (T = true) := by rw [Hid, hT.out, hE]; rfl
    clear h
    go_enter Try.func203, Try.ntmps203
    go_wp2_with (fail)
    go_quiet (fail)
    go_wp2
    go_ret
    exact ⟨ret_bool hF.out.symm, below_drewN (hB2 _ _).out _⟩
  · have hE : (d == d') = false := by simp [h]
    have hF : Hid (T = hasI R d) := by rw [Hid, hT.out, hE]; rfl
    clear h
    go_enter Try.func203, Try.ntmps203
    go_wp2_with (fail)
    obtain ⟨w1, hw1⟩ : ∃ w1 : World, w1 = (w.alloc (.cells #[.string op, .int .i64 d, .int .i64 a, .int .i64 b, .int .i64 m] 90)).alloc (.cells #[.string op', .int .i64 d', .int .i64 a', .int .i64 b', .int .i64 m'] 90) := ⟨_, rfl⟩
    rw [← hw1]
    obtain ⟨xa, xb, xc, xd, xe⟩ := In.box (RS.below (In.boxed (w := w) (t := 90) ⟨op, d, a, b, m⟩) (show Below (w.heap.size + 1) _ w1 by rw [hw1]; exact (Below.refl _ _).alloc (by simp) _) (by omega))
    have hy := In.boxed (w := w.alloc (.cells #[.string op, .int .i64 d, .int .i64 a, .int .i64 b, .int .i64 m] 90)) (t := 90) ⟨op', d', a', b', m'⟩
    rw [show (w.alloc (.cells #[.string op, .int .i64 d, .int .i64 a, .int .i64 b, .int .i64 m] 90)).heap.size = w.heap.size + 1 by simp, ← hw1] at hy
    obtain ⟨ya, yb, yc, yd, ye⟩ := In.box hy
    have hbw : Hid (Below w.heap.size w w1) := by rw [hw1]; exact (hB2 _ _).out
    have hz : w1.heap.size = w.heap.size + 2 := by rw [hw1]; simp
    have hz1 : w.heap.size < w1.heap.size := by omega
    have hz2 : w.heap.size + 1 < w1.heap.size := by omega
    clear hw1 hy hz
    simp only at xa xb xc xd xe ya yb yc yd ye
    go_region_held3 (fun w' => w'.cell? ⟨w.heap.size, 1, none⟩ = some (.int .i64 d) ∧ w'.cell? ⟨w.heap.size + 1, 0, none⟩ = some (.string op') ∧ w'.cell? ⟨w.heap.size + 1, 1, none⟩ = some (.int .i64 d') ∧ w'.cell? ⟨w.heap.size + 1, 2, none⟩ = some (.int .i64 a') ∧ w'.cell? ⟨w.heap.size + 1, 3, none⟩ = some (.int .i64 b') ∧ w'.cell? ⟨w.heap.size + 1, 4, none⟩ = some (.int .i64 m'))
      (first | exact ⟨xb, ya, yb, yc, yd, ye⟩ | exact ⟨(hb2.cell hz1).trans xb, (hb2.cell hz2).trans ya, (hb2.cell hz2).trans yb, (hb2.cell hz2).trans yc, (hb2.cell hz2).trans yd, (hb2.cell hz2).trans ye⟩ | go_keep)
      ((first
        | (go_at_call 154; refine (hRd.out _).mono ?_; rintro e w2 ⟨A2, c2, rfl, ho2, hb2⟩)
        | (go_at_call 142; refine (Contains_eq _ _ _ _ _ _ _ _ rfl (by have := hRl.out; omega) (by exact ho2.rs)).mono ?_; rintro e w' ⟨rfl, rfl⟩)))
    have hfin := Lib.hid (hbw.out.drew.trans (hb2.mono hbw.out.size))
    clear hb2 ho2
    go_wp2
    go_ret
    exact ⟨ret_bool hF.out.symm, hfin.out⟩

end Go.Proofs.Ythjfedidpjfboaa

namespace Go.Proofs.Ythjfedidpjfboaa
open Go.RowKit
set_option linter.unusedVariables false
set_option maxRecDepth 100000

theorem step_unwanted {o : Oper} {y : Nat → Option Bool} {X E : Prop} (h : Region.wanted o y = false) (hE : E) : if Region.wanted o y = true then X else E := by rw [h]; exact hE
set_option maxHeartbeats 16000000 in
theorem cdFree_any (x y : In) (w : World) :
    Calls Try.prog 146 #[.agg #[.string x.op, .int .i64 x.d, .int .i64 x.a, .int .i64 x.b, .int .i64 x.m], .agg #[.string y.op, .int .i64 y.d, .int .i64 y.a, .int .i64 y.b, .int .i64 y.m]] w fun e w' => e = .returned (.bool (freeB x y)) ∧ Below w.heap.size w w' := by
  have hT : Hid (freeB x y = (!(x.d == y.d) && !hasI (readsL x) y.d && !hasI (readsL y) x.d)) := rfl
  have hRx := Lib.hid (cdReads_any x)
  have hRy := Lib.hid (cdReads_any y)
  have hLx := Lib.hid (readsL_len x)
  have hLy := Lib.hid (readsL_len y)
  generalize freeB x y = T at *
  generalize readsL x = Rx at *
  generalize readsL y = Ry at *
  obtain ⟨op, d, a, b, m⟩ := x
  obtain ⟨op', d', a', b', m'⟩ := y
  simp only at hT hRx hRy
  have hB2 := fun o o' => Lib.hid (((Below.refl w.heap.size w).alloc (Nat.le_refl _) o).alloc (by simp) o')
  by_cases h : d = d'
  · have hE : (d != d') = false := by simp [h]
    have hE' : (d == d') = true := by simp [h]
    have hF : Hid (T = false) := by rw [Hid, hT.out, hE']; rfl
    clear h
    go_enter Try.func146, Try.ntmps146
    go_wp2_with (fail)
    go_quiet (fail)
    go_wp2
    go_ret
    exact ⟨ret_bool hF.out.symm, below_drewN (hB2 _ _).out _⟩
  · have hE : (d != d') = true := by simp [h]
    have hE' : (d == d') = false := by simp [h]
    clear h
    cases hx : hasI Rx d'
    · have hX := Lib.hid hx
      have hHx := Lib.hid (fun L B A c W (h : IS W L B A Rx) => l1Has_lit L B A Rx.length c Rx d' _ W hx rfl (by have := hLx.out; omega) h)
      have hHy := Lib.hid (fun L B A c W (h : IS W L B A Ry) => l1Has_eq L B A Ry.length c Ry d W rfl (by have := hLy.out; omega) h)
      have hF : Hid (T = !hasI Ry d) := by rw [Hid, hT.out, hE', hx]; simp
      clear hx
      go_enter Try.func146, Try.ntmps146
      go_wp2_with (fail)
      obtain ⟨w1, hw1⟩ : ∃ w1 : World, w1 = (w.alloc (.cells #[.string op, .int .i64 d, .int .i64 a, .int .i64 b, .int .i64 m] 90)).alloc (.cells #[.string op', .int .i64 d', .int .i64 a', .int .i64 b', .int .i64 m'] 90) := ⟨_, rfl⟩
      rw [← hw1]
      obtain ⟨xa, xb, xc, xd, xe⟩ := In.box (RS.below (In.boxed (w := w) (t := 90) ⟨op, d, a, b, m⟩) (show Below (w.heap.size + 1) _ w1 by rw [hw1]; exact (Below.refl _ _).alloc (by simp) _) (by omega))
      have hy := In.boxed (w := w.alloc (.cells #[.string op, .int .i64 d, .int .i64 a, .int .i64 b, .int .i64 m] 90)) (t := 90) ⟨op', d', a', b', m'⟩
      rw [show (w.alloc (.cells #[.string op, .int .i64 d, .int .i64 a, .int .i64 b, .int .i64 m] 90)).heap.size = w.heap.size + 1 by simp, ← hw1] at hy
      obtain ⟨ya, yb, yc, yd, ye⟩ := In.box hy
      have hbw : Hid (Below w.heap.size w w1) := by rw [hw1]; exact (hB2 _ _).out
      have hz : w1.heap.size = w.heap.size + 2 := by rw [hw1]; simp
      have hz1 : w.heap.size < w1.heap.size := by omega
      have hz2 : w.heap.size + 1 < w1.heap.size := by omega
      clear hw1 hy hz
      simp only at xa xb xc xd xe ya yb yc yd ye
      go_region_law (first
        | (go_simp; go_at_call 150; (with_reducible refine (hRx.out _).mono ?_); rintro e w2 ⟨A2, c2, rfl, ho2, hb2⟩; have xa2 := (hb2.cell (p := ⟨w.heap.size, 0, none⟩) hz1).trans xa; have xb2 := (hb2.cell (p := ⟨w.heap.size, 1, none⟩) hz1).trans xb; have xc2 := (hb2.cell (p := ⟨w.heap.size, 2, none⟩) hz1).trans xc; have xd2 := (hb2.cell (p := ⟨w.heap.size, 3, none⟩) hz1).trans xd; have xe2 := (hb2.cell (p := ⟨w.heap.size, 4, none⟩) hz1).trans xe; have ya2 := (hb2.cell (p := ⟨w.heap.size + 1, 0, none⟩) hz2).trans ya; have yb2 := (hb2.cell (p := ⟨w.heap.size + 1, 1, none⟩) hz2).trans yb; have yc2 := (hb2.cell (p := ⟨w.heap.size + 1, 2, none⟩) hz2).trans yc; have yd2 := (hb2.cell (p := ⟨w.heap.size + 1, 3, none⟩) hz2).trans yd; have ye2 := (hb2.cell (p := ⟨w.heap.size + 1, 4, none⟩) hz2).trans ye; have hz12 : w.heap.size < w2.heap.size := (by have := hb2.size; exact Nat.lt_of_lt_of_le hz1 this); have hz22 : w.heap.size + 1 < w2.heap.size := (by have := hb2.size; exact Nat.lt_of_lt_of_le hz2 this))
        | (go_simp; go_at_call 150; (with_reducible refine (hRy.out _).mono ?_); rintro e w3 ⟨A3, c3, rfl, ho3, hb3⟩; have xa3 := (hb3.cell (p := ⟨w.heap.size, 0, none⟩) hz12).trans xa2; have xb3 := (hb3.cell (p := ⟨w.heap.size, 1, none⟩) hz12).trans xb2; have xc3 := (hb3.cell (p := ⟨w.heap.size, 2, none⟩) hz12).trans xc2; have xd3 := (hb3.cell (p := ⟨w.heap.size, 3, none⟩) hz12).trans xd2; have xe3 := (hb3.cell (p := ⟨w.heap.size, 4, none⟩) hz12).trans xe2; have ya3 := (hb3.cell (p := ⟨w.heap.size + 1, 0, none⟩) hz22).trans ya2; have yb3 := (hb3.cell (p := ⟨w.heap.size + 1, 1, none⟩) hz22).trans yb2; have yc3 := (hb3.cell (p := ⟨w.heap.size + 1, 2, none⟩) hz22).trans yc2; have yd3 := (hb3.cell (p := ⟨w.heap.size + 1, 3, none⟩) hz22).trans yd2; have ye3 := (hb3.cell (p := ⟨w.heap.size + 1, 4, none⟩) hz22).trans ye2)
        | (go_simp; go_at_call 92; (with_reducible refine (hHx.out _ _ _ _ _ (by exact ho2.rs)).mono ?_); rintro e w' ⟨rfl, rfl⟩)
        | (go_simp; go_at_call 92; (with_reducible refine (hHy.out _ _ _ _ _ (by exact ho3.rs)).mono ?_); rintro e w' ⟨rfl, rfl⟩))
      all_goals
        have hfin := Lib.hid (hbw.out.trans ((((Below.refl w1.heap.size w1).drew.trans hb2).trans (hb3.mono (by have := hb2.size; exact this))).mono (by omega)))
        go_wp2
        go_ret
        exact ⟨ret_bool (by rw [hF.out]), hfin.out⟩
    · have hX := Lib.hid hx
      have hHx := Lib.hid (fun L B A c W (h : IS W L B A Rx) => l1Has_lit L B A Rx.length c Rx d' _ W hx rfl (by have := hLx.out; omega) h)
      have hHy := Lib.hid (fun L B A c W (h : IS W L B A Ry) => l1Has_eq L B A Ry.length c Ry d W rfl (by have := hLy.out; omega) h)
      have hF : Hid (T = false) := by rw [Hid, hT.out, hE', hx]; rfl
      clear hx
      go_enter Try.func146, Try.ntmps146
      go_wp2_with (fail)
      obtain ⟨w1, hw1⟩ : ∃ w1 : World, w1 = (w.alloc (.cells #[.string op, .int .i64 d, .int .i64 a, .int .i64 b, .int .i64 m] 90)).alloc (.cells #[.string op', .int .i64 d', .int .i64 a', .int .i64 b', .int .i64 m'] 90) := ⟨_, rfl⟩
      rw [← hw1]
      obtain ⟨xa, xb, xc, xd, xe⟩ := In.box (RS.below (In.boxed (w := w) (t := 90) ⟨op, d, a, b, m⟩) (show Below (w.heap.size + 1) _ w1 by rw [hw1]; exact (Below.refl _ _).alloc (by simp) _) (by omega))
      have hy := In.boxed (w := w.alloc (.cells #[.string op, .int .i64 d, .int .i64 a, .int .i64 b, .int .i64 m] 90)) (t := 90) ⟨op', d', a', b', m'⟩
      rw [show (w.alloc (.cells #[.string op, .int .i64 d, .int .i64 a, .int .i64 b, .int .i64 m] 90)).heap.size = w.heap.size + 1 by simp, ← hw1] at hy
      obtain ⟨ya, yb, yc, yd, ye⟩ := In.box hy
      have hbw : Hid (Below w.heap.size w w1) := by rw [hw1]; exact (hB2 _ _).out
      have hz : w1.heap.size = w.heap.size + 2 := by rw [hw1]; simp
      have hz1 : w.heap.size < w1.heap.size := by omega
      have hz2 : w.heap.size + 1 < w1.heap.size := by omega
      clear hw1 hy hz
      simp only at xa xb xc xd xe ya yb yc yd ye
      first | (go_region_law (first
        | (refine step_unwanted (by rfl) ?_)
        | (go_simp; go_at_call 150; (with_reducible refine (hRx.out _).mono ?_); rintro e w2 ⟨A2, c2, rfl, ho2, hb2⟩; have xa2 := (hb2.cell (p := ⟨w.heap.size, 0, none⟩) hz1).trans xa; have xb2 := (hb2.cell (p := ⟨w.heap.size, 1, none⟩) hz1).trans xb; have xc2 := (hb2.cell (p := ⟨w.heap.size, 2, none⟩) hz1).trans xc; have xd2 := (hb2.cell (p := ⟨w.heap.size, 3, none⟩) hz1).trans xd; have xe2 := (hb2.cell (p := ⟨w.heap.size, 4, none⟩) hz1).trans xe; have ya2 := (hb2.cell (p := ⟨w.heap.size + 1, 0, none⟩) hz2).trans ya; have yb2 := (hb2.cell (p := ⟨w.heap.size + 1, 1, none⟩) hz2).trans yb; have yc2 := (hb2.cell (p := ⟨w.heap.size + 1, 2, none⟩) hz2).trans yc; have yd2 := (hb2.cell (p := ⟨w.heap.size + 1, 3, none⟩) hz2).trans yd; have ye2 := (hb2.cell (p := ⟨w.heap.size + 1, 4, none⟩) hz2).trans ye)
        | (go_simp; go_at_call 92; (with_reducible refine (hHx.out _ _ _ _ _ (by exact ho2.rs)).mono ?_); rintro e w' ⟨rfl, rfl⟩))) | fail
      all_goals
        go_wp2
        go_ret
        exact ⟨ret_bool hF.out.symm, hbw.out.trans (((Below.refl w1.heap.size w1).drew.trans hb2).mono (by omega))⟩
end Go.Proofs.Ythjfedidpjfboaa

/- Names of registers: the plain model. No program. -/
namespace Go.Proofs.Ythjfedidpjfboaa
open Go.RowKit
set_option linter.unusedVariables false

def riseB (xs : List Int) : Bool := allIn xs 0 5 && decide (xs.Pairwise (· < ·))
def onceB (xs : List Int) : Bool := decide xs.Nodup
def namesOk (xs : List Int) : Bool := xs.length == 6 && allIn xs 0 5 && onceB xs
theorem allIn_perm {xs ys : List Int} {lo hi : Int} (h : xs.Perm ys) : allIn xs lo hi = allIn ys lo hi := by
  rw [Bool.eq_iff_iff]; simp only [allIn, List.all_eq_true]
  exact ⟨fun k x hx => k x (h.mem_iff.2 hx), fun k x hx => k x (h.mem_iff.1 hx)⟩
theorem sorted_perm (xs : List Int) : (sorted xs).Perm xs := List.mergeSort_perm _ _
theorem sorted_le (xs : List Int) : (sorted xs).Pairwise (· ≤ ·) := by
  have := List.pairwise_mergeSort (le := fun (x y : Int) => decide (x ≤ y)) (by intro a b c; simp; omega) (by intro a b; simp; omega) xs
  exact this.imp fun h => by simpa using h
theorem lt_of_le {xs : List Int} (h : xs.Pairwise (· ≤ ·)) (hn : xs.Nodup) : xs.Pairwise (· < ·) := by
  refine (h.and hn).imp ?_
  rintro a b ⟨h1, h2⟩; omega
theorem nodup_of_lt {xs : List Int} (h : xs.Pairwise (· < ·)) : xs.Nodup := h.imp fun h => by omega
theorem rise_sorted (xs : List Int) : riseB (sorted xs) = (allIn xs 0 5 && onceB xs) := by
  unfold riseB onceB
  rw [allIn_perm (sorted_perm xs)]
  congr 1
  rw [decide_eq_decide]
  exact ⟨fun h => (sorted_perm xs).nodup_iff.1 (nodup_of_lt h), fun h => lt_of_le (sorted_le xs) ((sorted_perm xs).nodup_iff.2 h)⟩
theorem once_no {xs : List Int} {k : Nat} (h : k < xs.length) (hh : hasI (xs.take k) xs[k] = true) : onceB xs = false := by
  simp only [onceB, decide_eq_false_iff_not]
  intro hn
  have h1 : (xs.take (k + 1)).Nodup := hn.sublist (List.take_sublist _ _)
  rw [List.take_succ_eq_append_getElem h, List.nodup_append] at h1
  obtain ⟨x, hx, he⟩ := List.any_eq_true.1 hh
  exact h1.2.2 x hx xs[k] (by simp) (by simpa using he)
theorem once_snoc {xs : List Int} {k : Nat} (h : k < xs.length) (ho : onceB (xs.take k) = true) (hh : hasI (xs.take k) xs[k] = false) : onceB (xs.take (k + 1)) = true := by
  simp only [onceB, decide_eq_true_eq] at ho ⊢
  rw [List.take_succ_eq_append_getElem h, List.nodup_append]
  refine ⟨ho, by simp, fun a ha b hb => ?_⟩
  simp at hb; subst hb
  intro he; subst he
  have : hasI (xs.take k) xs[k] = true := List.any_eq_true.2 ⟨_, ha, by simp⟩
  rw [hh] at this; cases this
theorem rise_reg {xs : List Int} {k : Nat} (h : k < xs.length) (hh : inR xs[k] 0 5 = false) : riseB xs = false := by
  have : allIn xs 0 5 = false := by
    cases hb : allIn xs 0 5
    · rfl
    · have := List.all_eq_true.1 hb xs[k] (List.getElem_mem h); rw [hh] at this; cases this
  simp [riseB, this]
theorem rise_le {xs : List Int} {k : Nat} (h : k + 1 < xs.length) (hh : xs[k + 1] ≤ xs[k]) : riseB xs = false := by
  have : ¬ xs.Pairwise (· < ·) := fun hp => by
    have := List.pairwise_iff_getElem.1 hp k (k + 1) (by omega) h (by omega); omega
  simp [riseB, this]
theorem rise_snoc0 {xs : List Int} (h : 0 < xs.length) (hr : inR xs[0] 0 5 = true) : riseB (xs.take 1) = true := by
  obtain _ | ⟨x, xs⟩ := xs
  · simp at h
  · simp [riseB, allIn] at hr ⊢; exact hr
theorem rise_snoc {xs : List Int} {k : Nat} (h : k + 1 < xs.length) (ho : riseB (xs.take (k + 1)) = true) (hr : inR xs[k + 1] 0 5 = true) (hh : xs[k] < xs[k + 1]) : riseB (xs.take (k + 2)) = true := by
  simp only [riseB, Bool.and_eq_true, decide_eq_true_eq] at ho ⊢
  refine ⟨by rw [allIn_snoc h, ho.1, hr]; rfl, ?_⟩
  rw [List.pairwise_iff_getElem] at *
  intro i j hi hj hij
  simp only [List.length_take] at hi hj
  simp only [List.getElem_take]
  have hp := fun i j (hi : i < k + 1) (hj : j < k + 1) (hij : i < j) => by
    have := ho.2 i j (by simp; omega) (by simp; omega) hij; simpa using this
  by_cases hj1 : j = k + 1
  · subst hj1
    by_cases hi1 : i = k
    · subst hi1; exact hh
    · have := hp i k (by omega) (by omega) (by omega)
      omega
  · exact hp i j (by omega) (by omega) hij
def ren (ns : List Int) (x : In) : In := ⟨x.op, ns.getD x.d.toNat 0, if (fm x.op).a = true then ns.getD x.a.toNat 0 else 0, if (fm x.op).b = true then ns.getD x.b.toNat 0 else 0, x.m⟩
def renR (es : List In) (ns : List Int) : List In := if (okCode es && namesOk ns) = true then es.map (ren ns) else []
theorem renR_len (es : List In) (ns : List Int) : (renR es ns).length ≤ 1048576 := by
  unfold renR; split
  · rename_i h; simp only [Bool.and_eq_true] at h
    have := okCode_len h.1; simp; omega
  · simp
theorem names6 {ns : List Int} (h : namesOk ns = true) : ns.length = 6 := by
  simp only [namesOk, Bool.and_eq_true, beq_iff_eq] at h; exact h.1.1
theorem good_zero {x : In} (h : goodIn x = true) : ((fm x.op).a = false → x.a = 0) ∧ ((fm x.op).b = false → x.b = 0) := by
  simp only [goodIn, opnd, Bool.and_eq_true, Bool.or_eq_true, beq_iff_eq] at h
  obtain ⟨⟨⟨⟨h1, h2⟩, h3⟩, h4⟩, h5⟩ := h
  constructor
  · intro ha; rcases h3 with h | h
    · exact h
    · rw [ha] at h; simp at h
  · intro ha; rcases h4 with h | h
    · exact h
    · rw [ha] at h; simp at h
end Go.Proofs.Ythjfedidpjfboaa

namespace Go.Proofs.Ythjfedidpjfboaa
open Go.RowKit
set_option linter.unusedVariables false
set_option maxRecDepth 100000

theorem IS.take {w : World} {L B : Nat} {A : Option Addr} {xs : List Int} (h : IS w L B A xs) (k : Nat) : IS w L B A (xs.take k) := by
  intro hn
  rw [List.length_take] at hn
  obtain ⟨b, o, e, hb, hc⟩ := h (by omega)
  refine ⟨b, o, e, hb, fun i hi => ?_⟩
  have hi' : i < xs.length := by rw [List.length_take] at hi; omega
  rw [List.getElem_take]; exact hc i hi'
set_option maxHeartbeats 1000000 in
theorem areRegisters_any (L B : Nat) (A : Option Addr) (c : Nat) (xs : List Int) (w : World) (hl : xs.length ≤ 1048576) (hx : IS w L B A xs) :
    Calls Try.prog 95 #[.slice A xs.length c] w fun e w' => e = .returned (.bool (riseB xs)) ∧ w = w' := by
  have hX := Lib.hid hx; clear hx
  go_enter Try.func95, Try.ntmps95
  go_wp2
  go_loop [7] (fun i => ∃ k : Nat, k ≤ xs.length ∧ i = .int .i64 k ∧ riseB (xs.take k) = true) (fun i => xs.length - (intOf i).toNat)
  case atStart => exact ⟨0, Nat.zero_le _, rfl, rfl⟩
  case round =>
    obtain ⟨k, hk, rfl, hh⟩ := hrel
    have hH := Lib.hid hh; clear hh
    by_cases hlt : k < xs.length
    · obtain ⟨b, o, rfl, _, hc⟩ := hX.out (by omega)
      cases k with
      | zero =>
        have hcell : w.cell? ⟨b, o, none⟩ = _ := hc 0 hlt
        clear hc
        have hNo := Lib.hid (rise_reg hlt)
        have hS := Lib.hid (rise_snoc0 hlt)
        generalize xs[0] = x at *
        cases hb : reg x
        · have hF := Lib.hid (hNo.out hb)
          go_wp2_with (go_at_call 114; refine (isRegister_any _ _).mono ?_; rintro e w' ⟨rfl, rfl⟩)
          go_ret
          exact ⟨ret_bool hF.out.symm, rfl⟩
        · have hS' := Lib.hid (hS.out hb)
          go_wp2_with (go_at_call 114; refine (isRegister_any _ _).mono ?_; rintro e w' ⟨rfl, rfl⟩)
          go_round
          case rel => exact ⟨1, by omega, by go_num, hS'.out⟩
          case measure => simp [intOf]; omega
      | succ k =>
        have hcell := hc (k + 1) hlt
        have hcell2 := hc k (by omega)
        clear hc
        have hNo := Lib.hid (rise_reg hlt)
        have hLe := Lib.hid (rise_le hlt)
        have hS := Lib.hid (rise_snoc hlt hH.out)
        generalize xs[k + 1] = x at *
        generalize xs[k] = y at *
        cases hb : reg x
        · have hF := Lib.hid (hNo.out hb)
          go_wp2_with (go_at_call 114; refine (isRegister_any _ _).mono ?_; rintro e w' ⟨rfl, rfl⟩)
          go_ret
          exact ⟨ret_bool hF.out.symm, rfl⟩
        · by_cases hxy : x ≤ y
          · have hF := Lib.hid (hLe.out hxy)
            go_wp2_with (go_at_call 114; refine (isRegister_any _ _).mono ?_; rintro e w' ⟨rfl, rfl⟩)
            go_ret
            exact ⟨ret_bool hF.out.symm, rfl⟩
          · have hS' := Lib.hid (hS.out hb (by omega))
            go_wp2_with (go_at_call 114; refine (isRegister_any _ _).mono ?_; rintro e w' ⟨rfl, rfl⟩)
            go_round
            case rel => exact ⟨k + 2, by omega, by go_num, hS'.out⟩
            case measure => simp [intOf]; omega
    · obtain rfl : k = xs.length := by omega
      go_wp2
      go_ret
      exact ⟨ret_bool (by have := hH.out; rw [List.take_length] at this; rw [this]), rfl⟩

end Go.Proofs.Ythjfedidpjfboaa
