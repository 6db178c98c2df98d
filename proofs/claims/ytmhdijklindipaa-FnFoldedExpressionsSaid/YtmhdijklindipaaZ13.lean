/- Texts of this proof, one behind the other: CU, CW, CX, CY, RN, RO. -/
import Derived.Test.YtmhdijklindipaaZ14
import Derived.Test.YtmhdijklindipaaCF
import Derived.WalkKit
import Derived.WalkSpells
import Derived.WalkLawsBesides
import Derived.Lib.Hide
import Derived.Test.YtmhdijklindipaaHI
import Derived.Deep.RegionHeld3
namespace Go.Proofs.Ytmhdijklindipaa
open Go.RowKit
set_option linter.unusedVariables false
set_option maxRecDepth 100000

theorem reads_ff (x : In) {a b : Bool} (ha : (fm x.op).a = false) (hb : (fm x.op).b = false) : readsL x = [] := by
  simp [readsL, reads2, ha, hb, compact0]
theorem reads_tf (x : In) (ha : (fm x.op).a = true) (hb : (fm x.op).b = false) : readsL x = put [] x.a := by
  simp [readsL, reads2, ha, hb, compact1, put_nil]
theorem reads_ft (x : In) (ha : (fm x.op).a = false) (hb : (fm x.op).b = true) : readsL x = put [] x.b := by
  simp [readsL, reads2, ha, hb, compact1, put_nil]
theorem reads_tt (x : In) (ha : (fm x.op).a = true) (hb : (fm x.op).b = true) : readsL x = put (put [] x.a) x.b := by
  have h1 : readsL x = Lib.compact ([x.a, x.b].mergeSort fun x y => decide (x ≤ y)) := by simp [readsL, reads2, ha, hb]
  rw [h1, sort2, put_nil]
  by_cases h : x.a ≤ x.b
  · rw [if_pos h, compact2]
    by_cases he : x.a = x.b
    · simp [put, he]
    · have h2 : x.a < x.b := by omega
      simp [put, h2, he]
  · rw [if_neg h, compact2]
    have h2 : ¬ x.a < x.b := by omega
    have h3 : ¬ x.b = x.a := by omega
    have h4 : ¬ x.a = x.b := by omega
    simp [put, h2, h3, h4]
theorem readsL_len (x : In) : (readsL x).length ≤ 2 := by
  cases ha : (fm x.op).a <;> cases hb : (fm x.op).b
  · rw [reads_ff x (a := true) (b := true) ha hb]; simp
  · rw [reads_ft x ha hb, put_nil]; simp
  · rw [reads_tf x ha hb, put_nil]; simp
  · rw [reads_tt x ha hb, put_nil]; have := put_len [x.a] x.b; simpa using this

set_option maxHeartbeats 4000000 in
theorem cdReads_any (x : In) (w : World) :
    Calls Try.prog 160 #[.agg #[.string x.op, .int .i64 x.d, .int .i64 x.a, .int .i64 x.b, .int .i64 x.m]] w (OwnI w.heap.size w (readsL x)) := by
  have hrf := fun h1 h2 => Lib.hid (reads_ff x (a := true) (b := true) h1 h2)
  have hrt := fun h1 h2 => Lib.hid (reads_tf x h1 h2)
  have hrs := fun h1 h2 => Lib.hid (reads_ft x h1 h2)
  have hru := fun h1 h2 => Lib.hid (reads_tt x h1 h2)
  obtain ⟨op, d, a, b, m⟩ := x
  generalize readsL ⟨op, d, a, b, m⟩ = R at *
  simp only at hrf hrt hrs hru
  have hb0 := Lib.hid ((Below.refl w.heap.size w).alloc (Nat.le_refl _) (.cells #[.string op, .int .i64 d, .int .i64 a, .int .i64 b, .int .i64 m] 56))
  have hP := fun w' (h : w.heap.size ≤ w'.heap.size) n => Lib.hid (l1Put_any w.heap.size w'.heap.size none 0 0 [] n w' rfl (by simp) (OW.nil _ _ _) h (Nat.le_refl _))
  go_enter Try.func160, Try.ntmps160
  go_wp2_with (fail)
  refine (cdShape_any _ _).mono ?_
  rintro e w' ⟨rfl, rfl⟩
  generalize fm op = f at *
  obtain ⟨ok, fa, fb, lo, hi, c⟩ := f
  simp only at hrf hrt hrs hru
  cases fa
  · cases fb
    · have hR := hrf rfl rfl
      clear hrf hrt hrs hru
      go_wp2
      go_ret
      rw [hR.out]
      exact ⟨none, 0, rfl, OW.nil _ _ _, hb0.out⟩
    · have hR := hrs rfl rfl
      clear hrf hrt hrs hru
      go_wp2_with (fail)
      refine (hP _ (by simp) _).out.mono ?_
      rintro e w1 ⟨A1, c1, rfl, ho1, hb1⟩
      have hO := Lib.hid ho1
      have hB := Lib.hid (hb0.out.trans (hb1.mono (by simp)))
      clear ho1 hb1
      go_wp2
      go_ret
      rw [hR.out]
      exact ⟨_, _, rfl, hO.out, hB.out⟩
  · cases fb
    · have hR := hrt rfl rfl
      clear hrf hrt hrs hru
      go_wp2_with (fail)
      refine (hP _ (by simp) _).out.mono ?_
      rintro e w1 ⟨A1, c1, rfl, ho1, hb1⟩
      have hO := Lib.hid ho1
      have hB := Lib.hid (hb0.out.trans (hb1.mono (by simp)))
      clear ho1 hb1
      go_wp2
      go_ret
      rw [hR.out]
      exact ⟨_, _, rfl, hO.out, hB.out⟩
    · have hR := hru rfl rfl
      clear hrf hrt hrs hru
      go_wp2_with (fail)
      refine (hP _ (by simp) _).out.mono ?_
      rintro e w1 ⟨A1, c1, rfl, ho1, hb1⟩
      obtain ⟨xa, xb, xc, xd, xe⟩ := In.old (x := ⟨op, d, a, b, m⟩) rfl hb1
      have hO := Lib.hid ho1
      have hB := Lib.hid (hb0.out.trans (hb1.mono (by simp)))
      have hpl := Lib.hid (put_len [] a)
      clear ho1 hb1
      go_wp2_with (fail)
      refine (l1Put_any w.heap.size w1.heap.size A1 _ c1 _ b _ rfl (by have := hpl.out; simp at this; omega) hO.out hB.out.size (Nat.le_refl _)).mono ?_
      rintro e w2 ⟨A2, c2, rfl, ho2, hb2⟩
      have hO2 := Lib.hid ho2
      have hB2 := Lib.hid (hB.out.trans (hb2.mono hB.out.size))
      clear ho2 hb2
      go_wp2
      go_ret
      rw [hR.out]
      exact ⟨_, _, rfl, hO2.out, hB2.out⟩
end Go.Proofs.Ytmhdijklindipaa

namespace Go.Proofs.Ytmhdijklindipaa
open Go.RowKit Go.Sort
set_option linter.unusedVariables false
set_option maxRecDepth 100000

theorem insNil_any (A : Option Addr) (c : Nat) (w : World) :
    Calls Try.prog 272 #[.slice A 0 c, .int .i64 0, .int .i64 0] w fun e w' => e = .returned (.tuple #[]) ∧ w = w' := by
  go_enter Try.func272, Try.ntmps272
  go_wp2
  go_loop [6] (fun i => i = .int .i64 1) (fun i => 0)
  case atStart => rfl
  case round =>
    subst hrel
    go_wp2
    go_end0
    exact ⟨rfl, rfl⟩
theorem pdqNil_any (A : Option Addr) (c : Nat) (n : Int) (w : World) :
    Calls Try.prog 261 #[.slice A 0 c, .int .i64 0, .int .i64 0, .int .i64 n] w fun e w' => e = .returned (.tuple #[]) ∧ w = w' := by
  go_enter Try.func261, Try.ntmps261
  go_wp2
  go_loop [1, 2] (fun i j => i = .int .i64 0 ∧ j = .int .i64 0) (fun i _ => 0)
  case atStart => exact ⟨rfl, rfl⟩
  case round =>
    obtain ⟨rfl, rfl⟩ := hrel
    go_wp2_with (go_at_call 272; refine (insNil_any _ _ _).mono ?_; rintro e w' ⟨rfl, rfl⟩)
    exact bodyPost_ret (v := .tuple #[]) (by simp [results, Try.results261, go_sem]) rfl ⟨rfl, rfl⟩
theorem sortNil_any (A : Option Addr) (c : Nat) (w : World) :
    Calls Try.prog 241 #[.slice A 0 c] w fun e w' => e = .returned (.tuple #[]) ∧ w = w' := by
  have H := Lib.hid (Try.bits_Len 0 w (by omega) (by omega))
  go_enter Try.func241, Try.ntmps241
  go_wp2_with (fail)
  refine H.out.mono ?_
  rintro e w' ⟨rfl, rfl⟩
  generalize Lib.bitLen _ = q
  go_wp2_with (go_at_call 261; refine (pdqNil_any _ _ _ _).mono ?_; rintro e w' ⟨rfl, rfl⟩)
  go_end0
  exact ⟨rfl, rfl⟩
def sorted (xs : List Int) : List Int := xs.mergeSort fun x y => decide (x ≤ y)
theorem sorted_len (xs : List Int) : (sorted xs).length = xs.length := by simp [sorted]
/-- slices.Sort on a slice of the call's own. -/
theorem sortOwn_any (lo hi : Nat) (A : Option Addr) (n c : Nat) (xs : List Int) (w : World) (hn : n = xs.length) (hl : xs.length ≤ 1048576) (hx : OW w lo hi (.slice A n c) xs) :
    Calls Try.prog 241 #[.slice A n c] w fun e w' => e = .returned (.tuple #[]) ∧ OW w' lo hi (.slice A n c) (sorted xs) ∧ Chg lo hi w w' := by
  subst hn
  rcases hx.1.2 with ⟨h0, h1⟩ | ⟨g, cap, cur, e, hlo, _⟩
  · injection h0 with e1 e2 e3
    obtain rfl : xs = [] := List.eq_nil_of_length_eq_zero h1
    subst e1; subst e3
    refine (sortNil_any none 0 w).mono ?_
    rintro e w' ⟨rfl, rfl⟩
    exact ⟨rfl, by simpa [sorted] using hx, Chg.refl _ _ _⟩
  · injection e with e1 e2 e3
    subst e1; subst e3
    have hg : g < w.heap.size := (hx.1.lt g rfl).2
    refine (Try.slices_Sort_int g 0 c xs w hx.holds hg (by omega)).mono ?_
    rintro e w' ⟨rfl, m, os, rfl⟩
    have hgh : g < hi := hx.2 g rfl
    exact ⟨rfl, hx.put (sorted_len xs) m os, (chg_put w g m _ os).more hlo hgh⟩
theorem compact_pre (xs : List Int) : (Lib.compact xs).length ≤ xs.length := by
  unfold Lib.compact Lib.compactUpTo
  rw [List.length_map]
  exact Nat.le_trans (List.length_filter_le _ _) (by simp)
/-- slices.Compact on a slice of the call's own. -/
theorem compactOwn_any (lo hi : Nat) (A : Option Addr) (n c : Nat) (xs : List Int) (w : World) (hn : n = xs.length) (hl : xs.length ≤ 1048576) (hx : OW w lo hi (.slice A n c) xs) :
    Calls Try.prog 242 #[.slice A n c] w fun e w' => e = .returned (.slice A (Lib.compact xs).length c) ∧ OW w' lo hi (.slice A (Lib.compact xs).length c) (Lib.compact xs) ∧ Chg lo hi w w' := by
  subst hn
  rcases hx.1.2 with ⟨h0, h1⟩ | ⟨g, cap, cur, e, hlo, _, h1, _⟩
  · injection h0 with e1 e2 e3
    obtain rfl : xs = [] := List.eq_nil_of_length_eq_zero h1
    subst e1; subst e3
    refine (Try.slices_Compact_int_empty none 0 w).mono ?_
    rintro e w' ⟨rfl, rfl⟩
    rw [compact0]
    exact ⟨rfl, hx, Chg.refl _ _ _⟩
  · injection e with e1 e2 e3
    subst e1; subst e3
    refine (Try.slices_Compact_int g 0 c xs w hx.holds (by omega) h1).mono ?_
    rintro e w' ⟨rfl, m, rfl⟩
    have hcl := compact_pre xs
    have hgh : g < hi := hx.2 g rfl
    have hp := hx.put (d := Lib.compact xs ++ List.replicate (xs.length - (Lib.compact xs).length) 0) (by simp; omega) m #[]
    have hs := hp.short (Lib.compact xs).length (by simp)
    rw [List.take_left, grow_empty] at hs
    refine ⟨rfl, hs, ?_⟩
    have := chg_put w g m (Lib.compact xs ++ List.replicate (xs.length - (Lib.compact xs).length) 0).toArray #[]
    rw [grow_empty] at this
    exact this.more hlo hgh
end Go.Proofs.Ytmhdijklindipaa

namespace Go.Proofs.Ytmhdijklindipaa
open Go.RowKit
set_option linter.unusedVariables false
set_option maxRecDepth 100000

/-- Five cells of a block. -/
theorem five_cells {w : World} {g : Nat} {t : TypeId} {a b c d e : Value} (h : w.heap[g]? = some (.cells #[a, b, c, d, e] t (0, 0))) :
    w.cell? ⟨g, 0, none⟩ = some a ∧ w.cell? ⟨g, 1, none⟩ = some b := by
  have hc := fun i => cell_of_row w g i #[a, b, c, d, e] t (0, 0) h
  exact ⟨hc 0, hc 1⟩
/-- Behind an append onto nil: what lay there reads as it did. -/
theorem cell_grown {w w' : World} {row : Option Nat} {p : Addr} {v : Value} (h : w.grownBy w' row) (hp : row = none) (hc : w.cell? p = some v) : w'.cell? p = some v :=
  h.cell hc (by rw [hp]; simp)
theorem keep2 {w2 w4 : World} {o1 o2 : Obj} (h : ((w2.alloc o1).alloc o2).grownBy w4 none) : Below w2.heap.size w2 w4 :=
  (((Below.refl w2.heap.size w2).alloc (Nat.le_refl _) o1).alloc (by simp) o2).grown h (by simp; omega) (fun j hj => by cases hj)
theorem blk2 {w2 w4 : World} {o1 o2 : Obj} (h : ((w2.alloc o1).alloc o2).grownBy w4 none) : w4.heap[w2.heap.size]? = some o1 :=
  (h.block w2.heap.size (by simp; omega) (by simp)).trans ((Below.heap_alloc _ _ _ (by simp)).trans (heap_alloc_new w2 o1))
set_option maxHeartbeats 4000000 in
theorem readsOf_any (x : In) (w : World) :
    Calls Try.prog 159 #[.agg #[.string x.op, .int .i64 x.d, .int .i64 x.a, .int .i64 x.b, .int .i64 x.m]] w (OwnI w.heap.size w (readsL x)) := by
  obtain ⟨i0, hi', hz0, hz1, hz2⟩ := info_parts Try.infoInt
  have hRL : Hid (readsL x = Lib.compact (sorted (reads2 (fm x.op).a (fm x.op).b x.a x.b))) := rfl
  obtain ⟨op, d, a, b, m⟩ := x
  generalize readsL ⟨op, d, a, b, m⟩ = R at *
  simp only at hRL
  have hB1 := fun o => (Below.refl w.heap.size w).alloc (Nat.le_refl _) o
  go_enter Try.func159, Try.ntmps159
  go_wp2_with (fail)
  refine (formOf_any _ _).mono ?_
  rintro e w2 ⟨rfl, hb⟩
  obtain ⟨xa, xb, xc, xd, xe⟩ := In.old (x := ⟨op, d, a, b, m⟩) rfl hb
  have hbb := Lib.hid ((hB1 _).trans (hb.mono (by simp)))
  have hz : w.heap.size < w2.heap.size := by have := hb.size; simp at this; omega
  clear hb hB1
  generalize fm op = f at *
  obtain ⟨ok, fa, fb, lo, hi, cc⟩ := f
  simp only [fmV]
  simp only at hRL
  have hbo := fun o => Lib.hid (hbb.out.alloc hbb.out.size o)
  cases fa
  · cases fb
    · have hR : Hid (R = Lib.compact (sorted [])) := hRL.out
      go_wp2_with (fail)
      refine (sortOwn_any w.heap.size _ none 0 0 [] _ rfl (by simp) (OW.nil _ w.heap.size w2.heap.size)).mono ?_
      rintro e w6 ⟨rfl, ho6, hc6⟩
      have hO6 := Lib.hid ho6
      have hb6 := Lib.hid (below_chg (hbo _).out hc6 (hbo _).out.size (Nat.le_refl _))
      clear ho6 hc6
      go_wp2_with (fail)
      refine (compactOwn_any w.heap.size _ _ _ _ _ _ (sorted_len _).symm (by rw [sorted_len]; simp) hO6.out).mono ?_
      rintro e w7 ⟨rfl, ho7, hc7⟩
      have hb7 := Lib.hid (below_chg hb6.out hc7 hb6.out.size (Nat.le_refl _))
      rw [show Lib.compact (sorted []) = R from hR.out.symm] at ho7 ⊢
      have hO7 := Lib.hid ho7
      clear ho7 hc7
      go_wp2
      go_ret
      exact ⟨_, _, rfl, ⟨hO7.out.1, fun j hj => (hO7.out.1.lt j hj).2⟩, hb7.out⟩
    · have hR : Hid (R = Lib.compact (sorted [b])) := hRL.out
      go_wp2_with (at_builtin; refine wpList_append_own _ rfl (.tmp 21) (.tmp 24) 27 rfl w.heap.size 3 i0 (.int .i64 0) 1 8 Try.underlying27 hi' hz0 hz1 hz2 rfl (by decide) (.slice none 0 0) 0 [] rfl (World.ownsRow_nil _ _ _ _) ⟨w2.heap.size + 1, 0, none⟩ 1 1 [.int .i64 b] rfl rfl (new1 (by simp)) (one1 _) (by unfold maxLen; omega) (by omega) (by simp; omega) ?_; intro v1 w4 hown1 hgr1 _; simp only [Nat.zero_add, List.nil_append] at hown1; have hb4 := Lib.hid (keep2 hgr1); obtain ⟨f0, f1⟩ := five_cells (blk2 hgr1); have xd4 := (hb4.out.cell (p := ⟨w.heap.size, 3, none⟩) hz).trans xd; have hz4 := hb4.out.size)
      have hO4 := Lib.hid (OW.ofRow (xs := [b]) hown1 rfl)
      obtain ⟨A4, c4, rfl, _⟩ := hO4.out.form
      have hbel4 := Lib.hid (hbb.out.trans (hb4.out.mono hbb.out.size))
      refine (sortOwn_any w.heap.size _ A4 1 c4 [b] _ rfl (by simp) hO4.out).mono ?_
      rintro e w6 ⟨rfl, ho6, hc6⟩
      have hO6 := Lib.hid ho6
      have hb6 := Lib.hid (below_chg hbel4.out hc6 hbel4.out.size (Nat.le_refl _))
      clear ho6 hc6
      go_wp2_with (fail)
      refine (compactOwn_any w.heap.size _ _ _ _ _ _ (sorted_len _).symm (by rw [sorted_len]; simp) hO6.out).mono ?_
      rintro e w7 ⟨rfl, ho7, hc7⟩
      have hb7 := Lib.hid (below_chg hb6.out hc7 hb6.out.size (Nat.le_refl _))
      rw [show Lib.compact (sorted [b]) = R from hR.out.symm] at ho7 ⊢
      have hO7 := Lib.hid ho7
      clear ho7 hc7
      go_wp2
      go_ret
      exact ⟨_, _, rfl, ⟨hO7.out.1, fun j hj => (hO7.out.1.lt j hj).2⟩, hb7.out⟩
  · cases fb
    · have hR : Hid (R = Lib.compact (sorted [a])) := hRL.out
      go_wp2_with (at_builtin; refine wpList_append_own _ rfl (.tmp 14) (.tmp 17) 27 rfl w.heap.size 3 i0 (.int .i64 0) 1 8 Try.underlying27 hi' hz0 hz1 hz2 rfl (by decide) (.slice none 0 0) 0 [] rfl (World.ownsRow_nil _ _ _ _) ⟨w2.heap.size + 1, 0, none⟩ 1 1 [.int .i64 a] rfl rfl (new1 (by simp)) (one1 _) (by unfold maxLen; omega) (by omega) (by simp; omega) ?_; intro v1 w4 hown1 hgr1 _; simp only [Nat.zero_add, List.nil_append] at hown1; have hb4 := Lib.hid (keep2 hgr1); obtain ⟨f0, f1⟩ := five_cells (blk2 hgr1); have xd4 := (hb4.out.cell (p := ⟨w.heap.size, 3, none⟩) hz).trans xd; have hz4 := hb4.out.size)
      have hO4 := Lib.hid (OW.ofRow (xs := [a]) hown1 rfl)
      obtain ⟨A4, c4, rfl, _⟩ := hO4.out.form
      have hbel4 := Lib.hid (hbb.out.trans (hb4.out.mono hbb.out.size))
      refine (sortOwn_any w.heap.size _ A4 1 c4 [a] _ rfl (by simp) hO4.out).mono ?_
      rintro e w6 ⟨rfl, ho6, hc6⟩
      have hO6 := Lib.hid ho6
      have hb6 := Lib.hid (below_chg hbel4.out hc6 hbel4.out.size (Nat.le_refl _))
      clear ho6 hc6
      go_wp2_with (fail)
      refine (compactOwn_any w.heap.size _ _ _ _ _ _ (sorted_len _).symm (by rw [sorted_len]; simp) hO6.out).mono ?_
      rintro e w7 ⟨rfl, ho7, hc7⟩
      have hb7 := Lib.hid (below_chg hb6.out hc7 hb6.out.size (Nat.le_refl _))
      rw [show Lib.compact (sorted [a]) = R from hR.out.symm] at ho7 ⊢
      have hO7 := Lib.hid ho7
      clear ho7 hc7
      go_wp2
      go_ret
      exact ⟨_, _, rfl, ⟨hO7.out.1, fun j hj => (hO7.out.1.lt j hj).2⟩, hb7.out⟩
    · have hR : Hid (R = Lib.compact (sorted [a, b])) := hRL.out
      go_wp2_with (first
        | (at_builtin; refine wpList_append_own _ rfl (.tmp 14) (.tmp 17) 27 rfl w.heap.size 3 i0 (.int .i64 0) 1 8 Try.underlying27 hi' hz0 hz1 hz2 rfl (by decide) (.slice none 0 0) 0 [] rfl (World.ownsRow_nil _ _ _ _) ⟨w2.heap.size + 1, 0, none⟩ 1 1 [.int .i64 a] rfl rfl (new1 (by simp)) (one1 _) (by unfold maxLen; omega) (by omega) (by simp; omega) ?_; intro v1 w4 hown1 hgr1 _; simp only [Nat.zero_add, List.nil_append] at hown1; have hb4 := Lib.hid (keep2 hgr1); obtain ⟨f0, f1⟩ := five_cells (blk2 hgr1); have xd4 := (hb4.out.cell (p := ⟨w.heap.size, 3, none⟩) hz).trans xd; have hz4 := hb4.out.size)
        | (at_builtin; refine wpList_append_own _ rfl (.tmp 21) (.tmp 24) 27 rfl w.heap.size 3 i0 (.int .i64 0) 1 8 Try.underlying27 hi' hz0 hz1 hz2 rfl (by decide) v1 1 _ rfl (hown1.alloc _) ⟨w4.heap.size, 0, none⟩ 1 1 [.int .i64 b] rfl rfl (new1 rfl) (one1 _) (by unfold maxLen; omega) (by omega) (by simp; omega) ?_; intro v2 w5 hown2 hgr2 _; simp only [List.singleton_append, Nat.reduceAdd] at hown2; have hb5 := Lib.hid (((hbb.out.trans (hb4.out.mono hbb.out.size)).alloc (by omega) _).grown hgr2 (by simp; omega) (fun j hj => (hown1.lt j hj).1))))
      have hO5 := Lib.hid (OW.ofRow (xs := [a, b]) hown2 rfl)
      obtain ⟨A5, c5, rfl, _⟩ := hO5.out.form
      refine (sortOwn_any w.heap.size _ A5 2 c5 [a, b] _ rfl (by simp) hO5.out).mono ?_
      rintro e w6 ⟨rfl, ho6, hc6⟩
      have hO6 := Lib.hid ho6
      have hb6 := Lib.hid (below_chg hb5.out hc6 hb5.out.size (Nat.le_refl _))
      clear ho6 hc6
      go_wp2_with (fail)
      refine (compactOwn_any w.heap.size _ _ _ _ _ _ (sorted_len _).symm (by rw [sorted_len]; simp) hO6.out).mono ?_
      rintro e w7 ⟨rfl, ho7, hc7⟩
      have hb7 := Lib.hid (below_chg hb6.out hc7 hb6.out.size (Nat.le_refl _))
      rw [show Lib.compact (sorted [a, b]) = R from hR.out.symm] at ho7 ⊢
      have hO7 := Lib.hid ho7
      clear ho7 hc7
      go_wp2
      go_ret
      exact ⟨_, _, rfl, ⟨hO7.out.1, fun j hj => (hO7.out.1.lt j hj).2⟩, hb7.out⟩
end Go.Proofs.Ytmhdijklindipaa

namespace Go.Proofs.Ytmhdijklindipaa
open Go.RowKit
set_option linter.unusedVariables false
set_option maxRecDepth 100000

theorem l1Has_lit (L B : Nat) (A : Option Addr) (m c : Nat) (xs : List Int) (n : Int) (r : Bool) (w : World) (hr : hasI xs n = r) (hm : m = xs.length) (hl : xs.length ≤ 1000000) (hx : IS w L B A xs) :
    Calls Try.prog 179 #[.slice A m c, .int .i64 n] w fun e w' => e = .returned (.bool r) ∧ w = w' := by
  subst hr; exact l1Has_eq L B A m c xs n w hm hl hx
def readsR (x : In) : List Int := if goodIn x = true then readsL x else []
theorem readsR_len (x : In) : (readsR x).length ≤ 1048576 := by
  unfold readsR; split
  · have := readsL_len x; omega
  · simp

theorem sReadsOf_any (x : In) (w : World) :
    Calls Try.prog 49 #[.agg #[.string x.op, .int .i64 x.d, .int .i64 x.a, .int .i64 x.b, .int .i64 x.m]] w (ResReadsOf (readsR x) (goodIn x) w) := by
  have hRd := Lib.hid (cdReads_any x)
  obtain ⟨op, d, a, b, m⟩ := x
  have hB1 := fun o => (Below.refl w.heap.size w).alloc (Nat.le_refl _) o
  go_enter Try.func49, Try.ntmps49
  go_wp2_with (fail)
  refine (cdGood_any _ _ _ _ _ _).mono ?_
  rintro e w2 ⟨rfl, hb⟩
  obtain ⟨xa, xb, xc, xd, xe⟩ := In.old (x := ⟨op, d, a, b, m⟩) rfl hb
  have hbb := Lib.hid ((hB1 _).trans (hb.mono (by simp)))
  clear hb
  cases hg : goodIn ⟨op, d, a, b, m⟩
  · have hR : Hid (readsR ⟨op, d, a, b, m⟩ = []) := by simp [Hid, readsR, hg]
    have hK := Lib.hid hg
    go_wp2
    go_ret2
    rw [hR.out, hK.out]; exact ⟨none, 0, rfl, OW.nil _ _ _, hbb.out⟩
  · have hR : Hid (readsR ⟨op, d, a, b, m⟩ = readsL ⟨op, d, a, b, m⟩) := by simp [Hid, readsR, hg]
    have hK := Lib.hid hg
    go_wp2_with (fail)
    refine (hRd.out _).mono ?_
    rintro e w3 ⟨A3, c3, rfl, ho3, hb3⟩
    have hO := Lib.hid (ho3.lower hbb.out.size)
    have hB := Lib.hid (hbb.out.trans (hb3.mono hbb.out.size))
    clear ho3 hb3
    go_wp2
    go_ret2
    rw [hR.out, hK.out]; exact ⟨_, _, rfl, hO.out, hB.out⟩

theorem iReadsOf_any (x : In) (w : World) :
    Calls Try.prog 48 #[.agg #[.string x.op, .int .i64 x.d, .int .i64 x.a, .int .i64 x.b, .int .i64 x.m]] w (ResReadsOf (readsR x) (goodIn x) w) := by
  have hRd := Lib.hid (readsOf_any x)
  obtain ⟨op, d, a, b, m⟩ := x
  have hB1 := fun o => (Below.refl w.heap.size w).alloc (Nat.le_refl _) o
  go_enter Try.func48, Try.ntmps48
  go_wp2_with (fail)
  refine (IsInstr_any _ _ _ _ _ _).mono ?_
  rintro e w2 ⟨rfl, hb⟩
  obtain ⟨xa, xb, xc, xd, xe⟩ := In.old (x := ⟨op, d, a, b, m⟩) rfl hb
  have hbb := Lib.hid ((hB1 _).trans (hb.mono (by simp)))
  clear hb
  cases hg : goodIn ⟨op, d, a, b, m⟩
  · have hR : Hid (readsR ⟨op, d, a, b, m⟩ = []) := by simp [Hid, readsR, hg]
    have hK := Lib.hid hg
    go_wp2
    go_ret2
    rw [hR.out, hK.out]; exact ⟨none, 0, rfl, OW.nil _ _ _, hbb.out⟩
  · have hR : Hid (readsR ⟨op, d, a, b, m⟩ = readsL ⟨op, d, a, b, m⟩) := by simp [Hid, readsR, hg]
    have hK := Lib.hid hg
    go_wp2_with (fail)
    refine (hRd.out _).mono ?_
    rintro e w3 ⟨A3, c3, rfl, ho3, hb3⟩
    have hO := Lib.hid (ho3.lower hbb.out.size)
    have hB := Lib.hid (hbb.out.trans (hb3.mono hbb.out.size))
    clear ho3 hb3
    go_wp2
    go_ret2
    rw [hR.out, hK.out]; exact ⟨_, _, rfl, hO.out, hB.out⟩

/-- Whether two instructions are independent. -/
def freeB (x y : In) : Bool := !(x.d == y.d) && !hasI (readsL x) y.d && !hasI (readsL y) x.d
/-- Whether x writes what y reads or writes. -/
def touchB (x y : In) : Bool := x.d == y.d || hasI (readsL y) x.d
theorem free_touch (x y : In) : freeB x y = (!touchB x y && !touchB y x) := by
  unfold freeB touchB
  have : (y.d == x.d) = (x.d == y.d) := by rw [Bool.eq_iff_iff]; simp; exact eq_comm
  rw [this]
  cases x.d == y.d <;> cases hasI (readsL x) y.d <;> cases hasI (readsL y) x.d <;> rfl
set_option maxHeartbeats 4000000 in
theorem isTouching_any (x y : In) (w : World) :
    Calls Try.prog 171 #[.agg #[.string x.op, .int .i64 x.d, .int .i64 x.a, .int .i64 x.b, .int .i64 x.m], .agg #[.string y.op, .int .i64 y.d, .int .i64 y.a, .int .i64 y.b, .int .i64 y.m]] w fun e w' => e = .returned (.bool (touchB x y)) ∧ Below w.heap.size w w' := by
  have hT : Hid (touchB x y = (x.d == y.d || hasI (readsL y) x.d)) := rfl
  have hRd := Lib.hid (readsOf_any y)
  have hRl := Lib.hid (readsL_len y)
  generalize touchB x y = T at *
  generalize readsL y = R at *
  obtain ⟨op, d, a, b, m⟩ := x
  obtain ⟨op', d', a', b', m'⟩ := y
  simp only at hT hRd
  have hB2 := fun o o' => Lib.hid (((Below.refl w.heap.size w).alloc (Nat.le_refl _) o).alloc (by simp) o')
  by_cases h : d = d'
  · have hE : (d == d') = true := by simp [h]
    have hF : Hid (T = true) := by rw [Hid, hT.out, hE]; rfl
    clear h
    go_enter Try.func171, Try.ntmps171
    go_wp2_with (fail)
    go_quiet (fail)
    go_wp2
    go_ret
    exact ⟨ret_bool hF.out.symm, below_drewN (hB2 _ _).out _⟩
  · have hE : (d == d') = false := by simp [h]
    have hF : Hid (T = hasI R d) := by rw [Hid, hT.out, hE]; rfl
    clear h
    go_enter Try.func171, Try.ntmps171
    go_wp2_with (fail)
    obtain ⟨w1, hw1⟩ : ∃ w1 : World, w1 = (w.alloc (.cells #[.string op, .int .i64 d, .int .i64 a, .int .i64 b, .int .i64 m] 56)).alloc (.cells #[.string op', .int .i64 d', .int .i64 a', .int .i64 b', .int .i64 m'] 56) := ⟨_, rfl⟩
    rw [← hw1]
    obtain ⟨xa, xb, xc, xd, xe⟩ := In.box (RS.below (In.boxed (w := w) (t := 56) ⟨op, d, a, b, m⟩) (show Below (w.heap.size + 1) _ w1 by rw [hw1]; exact (Below.refl _ _).alloc (by simp) _) (by omega))
    have hy := In.boxed (w := w.alloc (.cells #[.string op, .int .i64 d, .int .i64 a, .int .i64 b, .int .i64 m] 56)) (t := 56) ⟨op', d', a', b', m'⟩
    rw [show (w.alloc (.cells #[.string op, .int .i64 d, .int .i64 a, .int .i64 b, .int .i64 m] 56)).heap.size = w.heap.size + 1 by simp, ← hw1] at hy
    obtain ⟨ya, yb, yc, yd, ye⟩ := In.box hy
    have hbw : Hid (Below w.heap.size w w1) := by rw [hw1]; exact (hB2 _ _).out
    have hz : w1.heap.size = w.heap.size + 2 := by rw [hw1]; simp
    have hz1 : w.heap.size < w1.heap.size := by omega
    have hz2 : w.heap.size + 1 < w1.heap.size := by omega
    clear hw1 hy hz
    simp only at xa xb xc xd xe ya yb yc yd ye
    go_region_held3 (fun w' => w'.cell? ⟨w.heap.size, 1, none⟩ = some (.int .i64 d) ∧ w'.cell? ⟨w.heap.size + 1, 0, none⟩ = some (.string op') ∧ w'.cell? ⟨w.heap.size + 1, 1, none⟩ = some (.int .i64 d') ∧ w'.cell? ⟨w.heap.size + 1, 2, none⟩ = some (.int .i64 a') ∧ w'.cell? ⟨w.heap.size + 1, 3, none⟩ = some (.int .i64 b') ∧ w'.cell? ⟨w.heap.size + 1, 4, none⟩ = some (.int .i64 m'))
      (first | exact ⟨xb, ya, yb, yc, yd, ye⟩ | exact ⟨(hb2.cell hz1).trans xb, (hb2.cell hz2).trans ya, (hb2.cell hz2).trans yb, (hb2.cell hz2).trans yc, (hb2.cell hz2).trans yd, (hb2.cell hz2).trans ye⟩ | go_keep)
      ((first
        | (go_at_call 159; refine (hRd.out _).mono ?_; rintro e w2 ⟨A2, c2, rfl, ho2, hb2⟩)
        | (go_at_call 123; refine (Contains_eq _ _ _ _ _ _ _ _ rfl (by have := hRl.out; omega) (by exact ho2.rs)).mono ?_; rintro e w' ⟨rfl, rfl⟩)))
    have hfin := Lib.hid (hbw.out.drew.trans (hb2.mono hbw.out.size))
    clear hb2 ho2
    go_wp2
    go_ret
    exact ⟨ret_bool hF.out.symm, hfin.out⟩

end Go.Proofs.Ytmhdijklindipaa

/- Names of registers: the plain model. No program. -/
namespace Go.Proofs.Ytmhdijklindipaa
open Go.RowKit
set_option linter.unusedVariables false

def riseB (xs : List Int) : Bool := allIn xs 0 5 && decide (xs.Pairwise (· < ·))
def onceB (xs : List Int) : Bool := decide xs.Nodup
def namesOk (xs : List Int) : Bool := xs.length == 6 && allIn xs 0 5 && onceB xs
theorem allIn_perm {xs ys : List Int} {lo hi : Int} (h : xs.Perm ys) : allIn xs lo hi = allIn ys lo hi := by
  rw [Bool.eq_iff_iff]; simp only [allIn, List.all_eq_true]
  exact ⟨fun k x hx => k x (h.mem_iff.2 hx), fun k x hx => k x (h.mem_iff.1 hx)⟩
theorem sorted_perm (xs : List Int) : (sorted xs).Perm xs := List.mergeSort_perm _ _
theorem sorted_le (xs : List Int) : (sorted xs).Pairwise (· ≤ ·) := by
  have := List.pairwise_mergeSort (le := fun (x y : Int) => decide (x ≤ y)) (by intro a b c; simp; omega) (by intro a b; simp; omega) xs
  exact this.imp fun h => by simpa using h
theorem lt_of_le {xs : List Int} (h : xs.Pairwise (· ≤ ·)) (hn : xs.Nodup) : xs.Pairwise (· < ·) := by
  refine (h.and hn).imp ?_
  rintro a b ⟨h1, h2⟩; omega
theorem nodup_of_lt {xs : List Int} (h : xs.Pairwise (· < ·)) : xs.Nodup := h.imp fun h => by omega
theorem rise_sorted (xs : List Int) : riseB (sorted xs) = (allIn xs 0 5 && onceB xs) := by
  unfold riseB onceB
  rw [allIn_perm (sorted_perm xs)]
  congr 1
  rw [decide_eq_decide]
  exact ⟨fun h => (sorted_perm xs).nodup_iff.1 (nodup_of_lt h), fun h => lt_of_le (sorted_le xs) ((sorted_perm xs).nodup_iff.2 h)⟩
theorem once_no {xs : List Int} {k : Nat} (h : k < xs.length) (hh : hasI (xs.take k) xs[k] = true) : onceB xs = false := by
  simp only [onceB, decide_eq_false_iff_not]
  intro hn
  have h1 : (xs.take (k + 1)).Nodup := hn.sublist (List.take_sublist _ _)
  rw [List.take_succ_eq_append_getElem h, List.nodup_append] at h1
  obtain ⟨x, hx, he⟩ := List.any_eq_true.1 hh
  exact h1.2.2 x hx xs[k] (by simp) (by simpa using he)
theorem once_snoc {xs : List Int} {k : Nat} (h : k < xs.length) (ho : onceB (xs.take k) = true) (hh : hasI (xs.take k) xs[k] = false) : onceB (xs.take (k + 1)) = true := by
  simp only [onceB, decide_eq_true_eq] at ho ⊢
  rw [List.take_succ_eq_append_getElem h, List.nodup_append]
  refine ⟨ho, by simp, fun a ha b hb => ?_⟩
  simp at hb; subst hb
  intro he; subst he
  have : hasI (xs.take k) xs[k] = true := List.any_eq_true.2 ⟨_, ha, by simp⟩
  rw [hh] at this; cases this
theorem rise_reg {xs : List Int} {k : Nat} (h : k < xs.length) (hh : inR xs[k] 0 5 = false) : riseB xs = false := by
  have : allIn xs 0 5 = false := by
    cases hb : allIn xs 0 5
    · rfl
    · have := List.all_eq_true.1 hb xs[k] (List.getElem_mem h); rw [hh] at this; cases this
  simp [riseB, this]
theorem rise_le {xs : List Int} {k : Nat} (h : k + 1 < xs.length) (hh : xs[k + 1] ≤ xs[k]) : riseB xs = false := by
  have : ¬ xs.Pairwise (· < ·) := fun hp => by
    have := List.pairwise_iff_getElem.1 hp k (k + 1) (by omega) h (by omega); omega
  simp [riseB, this]
theorem rise_snoc0 {xs : List Int} (h : 0 < xs.length) (hr : inR xs[0] 0 5 = true) : riseB (xs.take 1) = true := by
  obtain _ | ⟨x, xs⟩ := xs
  · simp at h
  · simp [riseB, allIn] at hr ⊢; exact hr
theorem rise_snoc {xs : List Int} {k : Nat} (h : k + 1 < xs.length) (ho : riseB (xs.take (k + 1)) = true) (hr : inR xs[k + 1] 0 5 = true) (hh : xs[k] < xs[k + 1]) : riseB (xs.take (k + 2)) = true := by
  simp only [riseB, Bool.and_eq_true, decide_eq_true_eq] at ho ⊢
  refine ⟨by rw [allIn_snoc h, ho.1, hr]; rfl, ?_⟩
  rw [List.pairwise_iff_getElem] at *
  intro i j hi hj hij
  simp only [List.length_take] at hi hj
  simp only [List.getElem_take]
  have hp := fun i j (hi : i < k + 1) (hj : j < k + 1) (hij : i < j) => by
    have := ho.2 i j (by simp; omega) (by simp; omega) hij; simpa using this
  by_cases hj1 : j = k + 1
  · subst hj1
    by_cases hi1 : i = k
    · subst hi1; exact hh
    · have := hp i k (by omega) (by omega) (by omega)
      omega
  · exact hp i j (by omega) (by omega) hij
def ren (ns : List Int) (x : In) : In := ⟨x.op, ns.getD x.d.toNat 0, if (fm x.op).a = true then ns.getD x.a.toNat 0 else 0, if (fm x.op).b = true then ns.getD x.b.toNat 0 else 0, x.m⟩
def renR (es : List In) (ns : List Int) : List In := if (okCode es && namesOk ns) = true then es.map (ren ns) else []
theorem renR_len (es : List In) (ns : List Int) : (renR es ns).length ≤ 1048576 := by
  unfold renR; split
  · rename_i h; simp only [Bool.and_eq_true] at h
    have := okCode_len h.1; simp; omega
  · simp
theorem names6 {ns : List Int} (h : namesOk ns = true) : ns.length = 6 := by
  simp only [namesOk, Bool.and_eq_true, beq_iff_eq] at h; exact h.1.1
theorem good_zero {x : In} (h : goodIn x = true) : ((fm x.op).a = false → x.a = 0) ∧ ((fm x.op).b = false → x.b = 0) := by
  simp only [goodIn, opnd, Bool.and_eq_true, Bool.or_eq_true, beq_iff_eq] at h
  obtain ⟨⟨⟨⟨h1, h2⟩, h3⟩, h4⟩, h5⟩ := h
  constructor
  · intro ha; rcases h3 with h | h
    · exact h
    · rw [ha] at h; simp at h
  · intro ha; rcases h4 with h | h
    · exact h
    · rw [ha] at h; simp at h
end Go.Proofs.Ytmhdijklindipaa

namespace Go.Proofs.Ytmhdijklindipaa
open Go.RowKit
set_option linter.unusedVariables false
set_option maxRecDepth 100000

theorem IS.take {w : World} {L B : Nat} {A : Option Addr} {xs : List Int} (h : IS w L B A xs) (k : Nat) : IS w L B A (xs.take k) := by
  intro hn
  rw [List.length_take] at hn
  obtain ⟨b, o, e, hb, hc⟩ := h (by omega)
  refine ⟨b, o, e, hb, fun i hi => ?_⟩
  have hi' : i < xs.length := by rw [List.length_take] at hi; omega
  rw [List.getElem_take]; exact hc i hi'
set_option maxHeartbeats 1000000 in
theorem areRegisters_any (L B : Nat) (A : Option Addr) (c : Nat) (xs : List Int) (w : World) (hl : xs.length ≤ 1048576) (hx : IS w L B A xs) :
    Calls Try.prog 173 #[.slice A xs.length c] w fun e w' => e = .returned (.bool (riseB xs)) ∧ w = w' := by
  have hX := Lib.hid hx; clear hx
  go_enter Try.func173, Try.ntmps173
  go_wp2
  go_loop [7] (fun i => ∃ k : Nat, k ≤ xs.length ∧ i = .int .i64 k ∧ riseB (xs.take k) = true) (fun i => xs.length - (intOf i).toNat)
  case atStart => exact ⟨0, Nat.zero_le _, rfl, rfl⟩
  case round =>
    obtain ⟨k, hk, rfl, hh⟩ := hrel
    have hH := Lib.hid hh; clear hh
    by_cases hlt : k < xs.length
    · obtain ⟨b, o, rfl, _, hc⟩ := hX.out (by omega)
      cases k with
      | zero =>
        have hcell : w.cell? ⟨b, o, none⟩ = _ := hc 0 hlt
        clear hc
        have hNo := Lib.hid (rise_reg hlt)
        have hS := Lib.hid (rise_snoc0 hlt)
        generalize xs[0] = x at *
        cases hb : reg x
        · have hF := Lib.hid (hNo.out hb)
          go_wp2_with (go_at_call 150; refine (isRegister_any _ _).mono ?_; rintro e w' ⟨rfl, rfl⟩)
          go_ret
          exact ⟨ret_bool hF.out.symm, rfl⟩
        · have hS' := Lib.hid (hS.out hb)
          go_wp2_with (go_at_call 150; refine (isRegister_any _ _).mono ?_; rintro e w' ⟨rfl, rfl⟩)
          go_round
          case rel => exact ⟨1, by omega, by go_num, hS'.out⟩
          case measure => simp [intOf]; omega
      | succ k =>
        have hcell := hc (k + 1) hlt
        have hcell2 := hc k (by omega)
        clear hc
        have hNo := Lib.hid (rise_reg hlt)
        have hLe := Lib.hid (rise_le hlt)
        have hS := Lib.hid (rise_snoc hlt hH.out)
        generalize xs[k + 1] = x at *
        generalize xs[k] = y at *
        cases hb : reg x
        · have hF := Lib.hid (hNo.out hb)
          go_wp2_with (go_at_call 150; refine (isRegister_any _ _).mono ?_; rintro e w' ⟨rfl, rfl⟩)
          go_ret
          exact ⟨ret_bool hF.out.symm, rfl⟩
        · by_cases hxy : x ≤ y
          · have hF := Lib.hid (hLe.out hxy)
            go_wp2_with (go_at_call 150; refine (isRegister_any _ _).mono ?_; rintro e w' ⟨rfl, rfl⟩)
            go_ret
            exact ⟨ret_bool hF.out.symm, rfl⟩
          · have hS' := Lib.hid (hS.out hb (by omega))
            go_wp2_with (go_at_call 150; refine (isRegister_any _ _).mono ?_; rintro e w' ⟨rfl, rfl⟩)
            go_round
            case rel => exact ⟨k + 2, by omega, by go_num, hS'.out⟩
            case measure => simp [intOf]; omega
    · obtain rfl : k = xs.length := by omega
      go_wp2
      go_ret
      exact ⟨ret_bool (by have := hH.out; rw [List.take_length] at this; rw [this]), rfl⟩

set_option maxHeartbeats 1000000 in
theorem areNames_any (L B : Nat) (A : Option Addr) (c : Nat) (xs : List Int) (w : World) (hl : xs.length ≤ 1048576) (hx : IS w L B A xs) (hB : B ≤ w.heap.size) :
    Calls Try.prog 163 #[.slice A xs.length c] w fun e w' => e = .returned (.bool (namesOk xs)) ∧ Below w.heap.size w w' := by
  by_cases h6 : xs.length = 6
  · obtain ⟨b, o, rfl, _, _⟩ := hx (by omega)
    have hC := Lib.hid (CloneI_any b o c xs L B w hl hx hB)
    have hN : Hid (namesOk xs = riseB (sorted xs)) := by rw [Hid, rise_sorted, namesOk, h6]; rfl
    rw [h6] at hC ⊢
    clear hx
    go_enter Try.func163, Try.ntmps163
    go_wp2_with (fail)
    refine hC.out.mono ?_
    rintro e w1 ⟨A1, c1, rfl, ho, hb⟩
    rw [h6] at ho ⊢
    have hb1 := Lib.hid hb
    have hz := hb.size
    have hO := Lib.hid ho
    clear hb ho
    go_wp2_with (fail)
    refine (sortOwn_any w.heap.size w1.heap.size _ _ _ xs _ (by omega) hl hO.out).mono ?_
    rintro e w2 ⟨rfl, ho2, hc2⟩
    have hb2 := Lib.hid (below_chg hb1.out hc2 hz (Nat.le_refl _))
    have hR := Lib.hid (areRegisters_any w.heap.size w1.heap.size A1 c1 (sorted xs) w2 (by rw [sorted_len]; omega) ho2.rs)
    rw [sorted_len, h6] at hR
    clear hc2 ho2
    go_wp2_with (fail)
    refine hR.out.mono ?_
    rintro e w3 ⟨rfl, rfl⟩
    go_wp2
    go_ret
    exact ⟨ret_bool hN.out.symm, hb2.out⟩
  · have hN : Hid (namesOk xs = false) := by simp [Hid, namesOk, h6]
    have h6' : ((xs.length : Int) != 6) = true := by simp; omega
    go_enter Try.func163, Try.ntmps163
    go_wp2
    go_ret
    exact ⟨ret_bool hN.out.symm, Below.refl _ _⟩

set_option maxHeartbeats 1000000 in
theorem cdNames_any (L B : Nat) (A : Option Addr) (c : Nat) (xs : List Int) (w : World) (hl : xs.length ≤ 1048576) (hx : IS w L B A xs) (hcap : xs.length ≤ c) :
    Calls Try.prog 165 #[.slice A xs.length c] w fun e w' => e = .returned (.bool (namesOk xs)) ∧ w = w' := by
  have hX := Lib.hid hx
  have hA := Lib.hid (l1All_any L B A c xs 0 5 w hl hx)
  clear hx
  by_cases h6 : xs.length = 6
  · rw [h6] at hA ⊢ hcap
    have h6' : ((xs.length : Int) == 6) = true := by simp; omega
    cases ha : allIn xs 0 5
    · have hN : Hid (namesOk xs = false) := by simp [Hid, namesOk, ha]
      rw [ha] at hA
      clear ha
      go_enter Try.func165, Try.ntmps165
      go_wp2_with (go_at_call 190; refine hA.out.mono ?_; rintro e w' ⟨rfl, rfl⟩)
      go_ret
      exact ⟨ret_bool hN.out.symm, rfl⟩
    · have hN : Hid (namesOk xs = onceB xs) := by simp [Hid, namesOk, ha, h6]
      rw [ha] at hA
      clear ha
      go_enter Try.func165, Try.ntmps165
      go_wp2_with (go_at_call 190; refine hA.out.mono ?_; rintro e w' ⟨rfl, rfl⟩)
      go_loop [15] (fun i => ∃ k : Nat, k ≤ 6 ∧ i = .int .i64 k ∧ onceB (xs.take k) = true) (fun i => 6 - (intOf i).toNat)
      case atStart => exact ⟨0, Nat.zero_le _, rfl, by simp [onceB]⟩
      case round =>
        obtain ⟨k, hk, rfl, hh⟩ := hrel
        have hH := Lib.hid hh; clear hh
        by_cases hlt : k < 6
        · obtain ⟨b, o, rfl, hbb, hc⟩ := hX.out (by omega)
          have hcell := hc k (by omega)
          have hT := Lib.hid (hX.out.take k)
          have hkc : (k : Int) ≤ (c : Int) := by omega
          have hlt' : (k : Int) < 6 := by omega
          have hkl : Hid (k = (xs.take k).length) := by rw [Hid, List.length_take]; omega
          have hNo := Lib.hid (once_no (xs := xs) (k := k) (by omega))
          have hSn := Lib.hid (once_snoc (xs := xs) (k := k) (by omega) hH.out)
          clear hc
          have hk6 : k < xs.length := by omega
          generalize xs[k] = x at *
          cases hb : hasI (xs.take k) x
          · have hS' := Lib.hid (hSn.out hb)
            have hb' := Lib.hid hb
            clear hb
            go_wp2_with (go_at_call 179; refine (l1Has_lit L B _ k _ (xs.take k) x _ _ hb'.out hkl.out (by have := hkl.out; omega) hT.out).mono ?_; rintro e w' ⟨rfl, rfl⟩)
            go_round
            case rel => exact ⟨k + 1, by omega, by go_num, hS'.out⟩
            case measure => simp [intOf]; omega
          · have hF := Lib.hid (hNo.out hb)
            have hb' := Lib.hid hb
            clear hb
            go_wp2_with (go_at_call 179; refine (l1Has_lit L B _ k _ (xs.take k) x _ _ hb'.out hkl.out (by have := hkl.out; omega) hT.out).mono ?_; rintro e w' ⟨rfl, rfl⟩)
            go_ret
            exact ⟨ret_bool (by rw [hN.out, hF.out]), rfl⟩
        · obtain rfl : k = 6 := by omega
          go_wp2
          go_ret
          exact ⟨ret_bool (by have := hH.out; rw [← h6, List.take_length] at this; rw [hN.out, this]), rfl⟩
  · have hN : Hid (namesOk xs = false) := by simp [Hid, namesOk, h6]
    have h6' : ((xs.length : Int) != 6) = true := by simp; omega
    go_enter Try.func165, Try.ntmps165
    go_wp2
    go_ret
    exact ⟨ret_bool hN.out.symm, rfl⟩
end Go.Proofs.Ytmhdijklindipaa
