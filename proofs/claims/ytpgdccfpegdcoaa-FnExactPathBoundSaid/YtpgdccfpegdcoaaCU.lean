import Derived.Test.YtpgdccfpegdcoaaCT
import Derived.Test.YtpgdccfpegdcoaaCF
import Derived.Test.YtpgdccfpegdcoaaLawB
import Derived.Test.YtpgdccfpegdcoaaSH
import Derived.WalkKit
import Derived.WalkSpells
import Derived.WalkLawsBesides
import Derived.Lib.Hide
namespace Go.Proofs.Ytpgdccfpegdcoaa
open Go.RowKit
set_option linter.unusedVariables false
set_option maxRecDepth 100000

theorem reads_ff (x : In) {a b : Bool} (ha : (fm x.op).a = false) (hb : (fm x.op).b = false) : readsL x = [] := by
  simp [readsL, reads2, ha, hb, compact0]
theorem reads_tf (x : In) (ha : (fm x.op).a = true) (hb : (fm x.op).b = false) : readsL x = put [] x.a := by
  simp [readsL, reads2, ha, hb, compact1, put_nil]
theorem reads_ft (x : In) (ha : (fm x.op).a = false) (hb : (fm x.op).b = true) : readsL x = put [] x.b := by
  simp [readsL, reads2, ha, hb, compact1, put_nil]
theorem reads_tt (x : In) (ha : (fm x.op).a = true) (hb : (fm x.op).b = true) : readsL x = put (put [] x.a) x.b := by
  have h1 : readsL x = Lib.compact ([x.a, x.b].mergeSort fun x y => decide (x ≤ y)) := by simp [readsL, reads2, ha, hb]
  rw [h1, sort2, put_nil]
  by_cases h : x.a ≤ x.b
  · rw [if_pos h, compact2]
    by_cases he : x.a = x.b
    · simp [put, he]
    · have h2 : x.a < x.b := by omega
      simp [put, h2, he]
  · rw [if_neg h, compact2]
    have h2 : ¬ x.a < x.b := by omega
    have h3 : ¬ x.b = x.a := by omega
    have h4 : ¬ x.a = x.b := by omega
    simp [put, h2, h3, h4]
theorem readsL_len (x : In) : (readsL x).length ≤ 2 := by
  cases ha : (fm x.op).a <;> cases hb : (fm x.op).b
  · rw [reads_ff x (a := true) (b := true) ha hb]; simp
  · rw [reads_ft x ha hb, put_nil]; simp
  · rw [reads_tf x ha hb, put_nil]; simp
  · rw [reads_tt x ha hb, put_nil]; have := put_len [x.a] x.b; simpa using this

set_option maxHeartbeats 4000000 in
theorem cdReads_any (x : In) (w : World) :
    Calls Try.prog 160 #[.agg #[.string x.op, .int .i64 x.d, .int .i64 x.a, .int .i64 x.b, .int .i64 x.m]] w (OwnI w.heap.size w (readsL x)) := by
  have hrf := fun h1 h2 => Lib.hid (reads_ff x (a := true) (b := true) h1 h2)
  have hrt := fun h1 h2 => Lib.hid (reads_tf x h1 h2)
  have hrs := fun h1 h2 => Lib.hid (reads_ft x h1 h2)
  have hru := fun h1 h2 => Lib.hid (reads_tt x h1 h2)
  obtain ⟨op, d, a, b, m⟩ := x
  generalize readsL ⟨op, d, a, b, m⟩ = R at *
  simp only at hrf hrt hrs hru
  have hb0 := Lib.hid ((Below.refl w.heap.size w).alloc (Nat.le_refl _) (.cells #[.string op, .int .i64 d, .int .i64 a, .int .i64 b, .int .i64 m] 65))
  have hP := fun w' (h : w.heap.size ≤ w'.heap.size) n => Lib.hid (l1Put_any w.heap.size w'.heap.size none 0 0 [] n w' rfl (by simp) (OW.nil _ _ _) h (Nat.le_refl _))
  go_enter Try.func160, Try.ntmps160
  go_wp2_with (fail)
  refine (cdShape_any _ _).mono ?_
  rintro e w' ⟨rfl, rfl⟩
  generalize fm op = f at *
  obtain ⟨ok, fa, fb, lo, hi, c⟩ := f
  simp only at hrf hrt hrs hru
  cases fa
  · cases fb
    · have hR := hrf rfl rfl
      clear hrf hrt hrs hru
      go_wp2
      go_ret
      rw [hR.out]
      exact ⟨none, 0, rfl, OW.nil _ _ _, hb0.out⟩
    · have hR := hrs rfl rfl
      clear hrf hrt hrs hru
      go_wp2_with (fail)
      refine (hP _ (by simp) _).out.mono ?_
      rintro e w1 ⟨A1, c1, rfl, ho1, hb1⟩
      have hO := Lib.hid ho1
      have hB := Lib.hid (hb0.out.trans (hb1.mono (by simp)))
      clear ho1 hb1
      go_wp2
      go_ret
      rw [hR.out]
      exact ⟨_, _, rfl, hO.out, hB.out⟩
  · cases fb
    · have hR := hrt rfl rfl
      clear hrf hrt hrs hru
      go_wp2_with (fail)
      refine (hP _ (by simp) _).out.mono ?_
      rintro e w1 ⟨A1, c1, rfl, ho1, hb1⟩
      have hO := Lib.hid ho1
      have hB := Lib.hid (hb0.out.trans (hb1.mono (by simp)))
      clear ho1 hb1
      go_wp2
      go_ret
      rw [hR.out]
      exact ⟨_, _, rfl, hO.out, hB.out⟩
    · have hR := hru rfl rfl
      clear hrf hrt hrs hru
      go_wp2_with (fail)
      refine (hP _ (by simp) _).out.mono ?_
      rintro e w1 ⟨A1, c1, rfl, ho1, hb1⟩
      obtain ⟨xa, xb, xc, xd, xe⟩ := In.old (x := ⟨op, d, a, b, m⟩) rfl hb1
      have hO := Lib.hid ho1
      have hB := Lib.hid (hb0.out.trans (hb1.mono (by simp)))
      have hpl := Lib.hid (put_len [] a)
      clear ho1 hb1
      go_wp2_with (fail)
      refine (l1Put_any w.heap.size w1.heap.size A1 _ c1 _ b _ rfl (by have := hpl.out; simp at this; omega) hO.out hB.out.size (Nat.le_refl _)).mono ?_
      rintro e w2 ⟨A2, c2, rfl, ho2, hb2⟩
      have hO2 := Lib.hid ho2
      have hB2 := Lib.hid (hB.out.trans (hb2.mono hB.out.size))
      clear ho2 hb2
      go_wp2
      go_ret
      rw [hR.out]
      exact ⟨_, _, rfl, hO2.out, hB2.out⟩
end Go.Proofs.Ytpgdccfpegdcoaa
