import Derived.Test.YtpgdccfpegdcoaaCW
import Derived.WalkKit
import Derived.WalkSpells
import Derived.WalkLawsBesides
import Derived.Lib.Hide
namespace Go.Proofs.Ytpgdccfpegdcoaa
open Go.RowKit
set_option linter.unusedVariables false
set_option maxRecDepth 100000

/-- Five cells of a block. -/
theorem five_cells {w : World} {g : Nat} {t : TypeId} {a b c d e : Value} (h : w.heap[g]? = some (.cells #[a, b, c, d, e] t (0, 0))) :
    w.cell? ⟨g, 0, none⟩ = some a ∧ w.cell? ⟨g, 1, none⟩ = some b := by
  have hc := fun i => cell_of_row w g i #[a, b, c, d, e] t (0, 0) h
  exact ⟨hc 0, hc 1⟩
/-- Behind an append onto nil: what lay there reads as it did. -/
theorem cell_grown {w w' : World} {row : Option Nat} {p : Addr} {v : Value} (h : w.grownBy w' row) (hp : row = none) (hc : w.cell? p = some v) : w'.cell? p = some v :=
  h.cell hc (by rw [hp]; simp)
theorem keep2 {w2 w4 : World} {o1 o2 : Obj} (h : ((w2.alloc o1).alloc o2).grownBy w4 none) : Below w2.heap.size w2 w4 :=
  (((Below.refl w2.heap.size w2).alloc (Nat.le_refl _) o1).alloc (by simp) o2).grown h (by simp; omega) (fun j hj => by cases hj)
theorem blk2 {w2 w4 : World} {o1 o2 : Obj} (h : ((w2.alloc o1).alloc o2).grownBy w4 none) : w4.heap[w2.heap.size]? = some o1 :=
  (h.block w2.heap.size (by simp; omega) (by simp)).trans ((Below.heap_alloc _ _ _ (by simp)).trans (heap_alloc_new w2 o1))
set_option maxHeartbeats 4000000 in
theorem readsOf_any (x : In) (w : World) :
    Calls Try.prog 137 #[.agg #[.string x.op, .int .i64 x.d, .int .i64 x.a, .int .i64 x.b, .int .i64 x.m]] w (OwnI w.heap.size w (readsL x)) := by
  obtain ⟨i0, hi', hz0, hz1, hz2⟩ := info_parts Try.infoInt
  have hRL : Hid (readsL x = Lib.compact (sorted (reads2 (fm x.op).a (fm x.op).b x.a x.b))) := rfl
  obtain ⟨op, d, a, b, m⟩ := x
  generalize readsL ⟨op, d, a, b, m⟩ = R at *
  simp only at hRL
  have hB1 := fun o => (Below.refl w.heap.size w).alloc (Nat.le_refl _) o
  go_enter Try.func137, Try.ntmps137
  go_wp2_with (fail)
  refine (formOf_any _ _).mono ?_
  rintro e w2 ⟨rfl, hb⟩
  obtain ⟨xa, xb, xc, xd, xe⟩ := In.old (x := ⟨op, d, a, b, m⟩) rfl hb
  have hbb := Lib.hid ((hB1 _).trans (hb.mono (by simp)))
  have hz : w.heap.size < w2.heap.size := by have := hb.size; simp at this; omega
  clear hb hB1
  generalize fm op = f at *
  obtain ⟨ok, fa, fb, lo, hi, cc⟩ := f
  simp only [fmV]
  simp only at hRL
  have hbo := fun o => Lib.hid (hbb.out.alloc hbb.out.size o)
  cases fa
  · cases fb
    · have hR : Hid (R = Lib.compact (sorted [])) := hRL.out
      go_wp2_with (fail)
      refine (sortOwn_any w.heap.size _ none 0 0 [] _ rfl (by simp) (OW.nil _ w.heap.size w2.heap.size)).mono ?_
      rintro e w6 ⟨rfl, ho6, hc6⟩
      have hO6 := Lib.hid ho6
      have hb6 := Lib.hid (below_chg (hbo _).out hc6 (hbo _).out.size (Nat.le_refl _))
      clear ho6 hc6
      go_wp2_with (fail)
      refine (compactOwn_any w.heap.size _ _ _ _ _ _ (sorted_len _).symm (by rw [sorted_len]; simp) hO6.out).mono ?_
      rintro e w7 ⟨rfl, ho7, hc7⟩
      have hb7 := Lib.hid (below_chg hb6.out hc7 hb6.out.size (Nat.le_refl _))
      rw [show Lib.compact (sorted []) = R from hR.out.symm] at ho7 ⊢
      have hO7 := Lib.hid ho7
      clear ho7 hc7
      go_wp2
      go_ret
      exact ⟨_, _, rfl, ⟨hO7.out.1, fun j hj => (hO7.out.1.lt j hj).2⟩, hb7.out⟩
    · have hR : Hid (R = Lib.compact (sorted [b])) := hRL.out
      go_wp2_with (at_builtin; refine wpList_append_own _ rfl (.tmp 21) (.tmp 24) 38 rfl w.heap.size 3 i0 (.int .i64 0) 1 8 Try.underlying38 hi' hz0 hz1 hz2 rfl (by decide) (.slice none 0 0) 0 [] rfl (World.ownsRow_nil _ _ _ _) ⟨w2.heap.size + 1, 0, none⟩ 1 1 [.int .i64 b] rfl rfl (new1 (by simp)) (one1 _) (by unfold maxLen; omega) (by omega) (by simp; omega) ?_; intro v1 w4 hown1 hgr1 _; simp only [Nat.zero_add, List.nil_append] at hown1; have hb4 := Lib.hid (keep2 hgr1); obtain ⟨f0, f1⟩ := five_cells (blk2 hgr1); have xd4 := (hb4.out.cell (p := ⟨w.heap.size, 3, none⟩) hz).trans xd; have hz4 := hb4.out.size)
      have hO4 := Lib.hid (OW.ofRow (xs := [b]) hown1 rfl)
      obtain ⟨A4, c4, rfl, _⟩ := hO4.out.form
      have hbel4 := Lib.hid (hbb.out.trans (hb4.out.mono hbb.out.size))
      refine (sortOwn_any w.heap.size _ A4 1 c4 [b] _ rfl (by simp) hO4.out).mono ?_
      rintro e w6 ⟨rfl, ho6, hc6⟩
      have hO6 := Lib.hid ho6
      have hb6 := Lib.hid (below_chg hbel4.out hc6 hbel4.out.size (Nat.le_refl _))
      clear ho6 hc6
      go_wp2_with (fail)
      refine (compactOwn_any w.heap.size _ _ _ _ _ _ (sorted_len _).symm (by rw [sorted_len]; simp) hO6.out).mono ?_
      rintro e w7 ⟨rfl, ho7, hc7⟩
      have hb7 := Lib.hid (below_chg hb6.out hc7 hb6.out.size (Nat.le_refl _))
      rw [show Lib.compact (sorted [b]) = R from hR.out.symm] at ho7 ⊢
      have hO7 := Lib.hid ho7
      clear ho7 hc7
      go_wp2
      go_ret
      exact ⟨_, _, rfl, ⟨hO7.out.1, fun j hj => (hO7.out.1.lt j hj).2⟩, hb7.out⟩
  · cases fb
    · have hR : Hid (R = Lib.compact (sorted [a])) := hRL.out
      go_wp2_with (at_builtin; refine wpList_append_own _ rfl (.tmp 14) (.tmp 17) 38 rfl w.heap.size 3 i0 (.int .i64 0) 1 8 Try.underlying38 hi' hz0 hz1 hz2 rfl (by decide) (.slice none 0 0) 0 [] rfl (World.ownsRow_nil _ _ _ _) ⟨w2.heap.size + 1, 0, none⟩ 1 1 [.int .i64 a] rfl rfl (new1 (by simp)) (one1 _) (by unfold maxLen; omega) (by omega) (by simp; omega) ?_; intro v1 w4 hown1 hgr1 _; simp only [Nat.zero_add, List.nil_append] at hown1; have hb4 := Lib.hid (keep2 hgr1); obtain ⟨f0, f1⟩ := five_cells (blk2 hgr1); have xd4 := (hb4.out.cell (p := ⟨w.heap.size, 3, none⟩) hz).trans xd; have hz4 := hb4.out.size)
      have hO4 := Lib.hid (OW.ofRow (xs := [a]) hown1 rfl)
      obtain ⟨A4, c4, rfl, _⟩ := hO4.out.form
      have hbel4 := Lib.hid (hbb.out.trans (hb4.out.mono hbb.out.size))
      refine (sortOwn_any w.heap.size _ A4 1 c4 [a] _ rfl (by simp) hO4.out).mono ?_
      rintro e w6 ⟨rfl, ho6, hc6⟩
      have hO6 := Lib.hid ho6
      have hb6 := Lib.hid (below_chg hbel4.out hc6 hbel4.out.size (Nat.le_refl _))
      clear ho6 hc6
      go_wp2_with (fail)
      refine (compactOwn_any w.heap.size _ _ _ _ _ _ (sorted_len _).symm (by rw [sorted_len]; simp) hO6.out).mono ?_
      rintro e w7 ⟨rfl, ho7, hc7⟩
      have hb7 := Lib.hid (below_chg hb6.out hc7 hb6.out.size (Nat.le_refl _))
      rw [show Lib.compact (sorted [a]) = R from hR.out.symm] at ho7 ⊢
      have hO7 := Lib.hid ho7
      clear ho7 hc7
      go_wp2
      go_ret
      exact ⟨_, _, rfl, ⟨hO7.out.1, fun j hj => (hO7.out.1.lt j hj).2⟩, hb7.out⟩
    · have hR : Hid (R = Lib.compact (sorted [a, b])) := hRL.out
      go_wp2_with (first
        | (at_builtin; refine wpList_append_own _ rfl (.tmp 14) (.tmp 17) 38 rfl w.heap.size 3 i0 (.int .i64 0) 1 8 Try.underlying38 hi' hz0 hz1 hz2 rfl (by decide) (.slice none 0 0) 0 [] rfl (World.ownsRow_nil _ _ _ _) ⟨w2.heap.size + 1, 0, none⟩ 1 1 [.int .i64 a] rfl rfl (new1 (by simp)) (one1 _) (by unfold maxLen; omega) (by omega) (by simp; omega) ?_; intro v1 w4 hown1 hgr1 _; simp only [Nat.zero_add, List.nil_append] at hown1; have hb4 := Lib.hid (keep2 hgr1); obtain ⟨f0, f1⟩ := five_cells (blk2 hgr1); have xd4 := (hb4.out.cell (p := ⟨w.heap.size, 3, none⟩) hz).trans xd; have hz4 := hb4.out.size)
        | (at_builtin; refine wpList_append_own _ rfl (.tmp 21) (.tmp 24) 38 rfl w.heap.size 3 i0 (.int .i64 0) 1 8 Try.underlying38 hi' hz0 hz1 hz2 rfl (by decide) v1 1 _ rfl (hown1.alloc _) ⟨w4.heap.size, 0, none⟩ 1 1 [.int .i64 b] rfl rfl (new1 rfl) (one1 _) (by unfold maxLen; omega) (by omega) (by simp; omega) ?_; intro v2 w5 hown2 hgr2 _; simp only [List.singleton_append, Nat.reduceAdd] at hown2; have hb5 := Lib.hid (((hbb.out.trans (hb4.out.mono hbb.out.size)).alloc (by omega) _).grown hgr2 (by simp; omega) (fun j hj => (hown1.lt j hj).1))))
      have hO5 := Lib.hid (OW.ofRow (xs := [a, b]) hown2 rfl)
      obtain ⟨A5, c5, rfl, _⟩ := hO5.out.form
      refine (sortOwn_any w.heap.size _ A5 2 c5 [a, b] _ rfl (by simp) hO5.out).mono ?_
      rintro e w6 ⟨rfl, ho6, hc6⟩
      have hO6 := Lib.hid ho6
      have hb6 := Lib.hid (below_chg hb5.out hc6 hb5.out.size (Nat.le_refl _))
      clear ho6 hc6
      go_wp2_with (fail)
      refine (compactOwn_any w.heap.size _ _ _ _ _ _ (sorted_len _).symm (by rw [sorted_len]; simp) hO6.out).mono ?_
      rintro e w7 ⟨rfl, ho7, hc7⟩
      have hb7 := Lib.hid (below_chg hb6.out hc7 hb6.out.size (Nat.le_refl _))
      rw [show Lib.compact (sorted [a, b]) = R from hR.out.symm] at ho7 ⊢
      have hO7 := Lib.hid ho7
      clear ho7 hc7
      go_wp2
      go_ret
      exact ⟨_, _, rfl, ⟨hO7.out.1, fun j hj => (hO7.out.1.lt j hj).2⟩, hb7.out⟩
end Go.Proofs.Ytpgdccfpegdcoaa
