import Derived.Test.YtjnbgnnlpeoaoaaCQ
import Derived.WalkKit
import Derived.WalkSpells
import Derived.WalkLawsBesides
import Derived.Lib.Hide
namespace Go.Proofs.Ytjnbgnnlpeoaoaa
open Go.RowKit
set_option linter.unusedVariables false
set_option maxRecDepth 100000

set_option maxHeartbeats 4000000 in
theorem runSteps_any (L B : Nat) (A : Option Addr) (c : Nat) (es : List In) (g : Nat) (rs : List Int) (w : World) (hok : okCode es = true) (hes : RS In.enc 5 w L B A es) (hB : B ≤ g) (h6 : words6 rs) (hI : IB w g 81 rs) :
    Calls Try.prog 82 #[.slice A es.length c, .func (.func 83) #[.pointer (some ⟨g, 0, none⟩)] #[]] w (StepM w g (runL es rs)) := by
  have hl := okCode_len hok
  have hall := Lib.hid (okCode_all hok)
  have hE := Lib.hid hes
  have hBB := Lib.hid hB
  have hH6 := Lib.hid h6
  have hM0 := Lib.hid hI
  have hgl := hI.lt
  have hc0 := Lib.hid (Chg.refl g (g + 1) w)
  clear hes hB hok h6 hI
  go_enter Try.func82, Try.ntmps82
  go_wp2
  go_loopw [8] (fun i wr => ∃ k : Nat, k ≤ es.length ∧ i = .int .i64 k ∧ IB wr g 81 (runL (es.take k) rs) ∧ Chg g (g + 1) w wr) (fun i _ => es.length - (intOf i).toNat)
  case atStart => exact ⟨0, Nat.zero_le _, rfl, hM0.out, hc0.out⟩
  case round =>
    obtain ⟨k, hk, rfl, hib, hchg⟩ := hrel
    have hM := Lib.hid hib
    have hgw := hib.lt
    have hCh := Lib.hid hchg
    clear hib
    by_cases hlt : k < es.length
    · obtain ⟨b, o, rfl, ⟨_, hbB⟩, hc⟩ := In.cells (hE.out.chg hchg (Nat.le_of_lt (Nat.lt_of_le_of_lt hBB.out hgl)) (.inl hBB.out)) (by omega)
      obtain ⟨d1, d2, d3, d4, d5⟩ := hc k hlt
      clear hc hchg
      have hx := Lib.hid (hall.out _ (List.getElem_mem hlt))
      have hS := Lib.hid (runL_snoc (rs := rs) hlt)
      have hW := Lib.hid (runL_words_take hall.out hH6.out k)
      generalize es[k] = nd at *
      obtain ⟨op, d, a, bb, m⟩ := nd
      have hM2 := fun o => Lib.hid (hM.out.below ((Below.refl wr.heap.size wr).alloc (Nat.le_refl _) o) hgw)
      have hC2 := fun o => Lib.hid (hCh.out.alloc o)
      go_wp2_with (fail)
      refine (stepM_any ⟨op, d, a, bb, m⟩ g _ _ hx.out hW.out (hM2 _).out).mono ?_
      rintro e w3 ⟨rfl, hm3, hc3⟩
      have hM3 := Lib.hid hm3
      have hC3 := Lib.hid ((hC2 _).out.trans hc3)
      clear hm3 hc3 d1 d2 d3 d4 d5
      go_wp2
      go_roundw
      case rel => exact ⟨k + 1, by omega, by go_num, by rw [hS.out]; exact hM3.out, hC3.out⟩
      case measure => simp [intOf]; omega
    · obtain rfl : k = es.length := by omega
      clear hchg
      go_wp2
      go_end0
      exact ⟨rfl, by have := hM.out; rwa [List.take_length] at this, hCh.out⟩

set_option maxHeartbeats 4000000 in
theorem iRunCode_any (L B : Nat) (A : Option Addr) (c : Nat) (es : List In) (L' B' : Nat) (A' : Option Addr) (c' : Nat) (rs : List Int) (w : World) (hl : es.length ≤ 1048576) (hes : RS In.enc 5 w L B A es) (hB : B ≤ w.heap.size) (hl' : rs.length ≤ 1048576) (hI : IS w L' B' A' rs) (hB' : B' ≤ w.heap.size) :
    Calls Try.prog 40 #[.slice A es.length c, .slice A' rs.length c'] w (ResRunCode (runR es rs) (okCode es && regsOk rs) w) := by
  have H := Lib.hid (IsCode_any L B A c es w hl hes hB)
  have hE := Lib.hid hes
  have hE' := Lib.hid hI
  have hBB := Lib.hid hB
  have hBB' := Lib.hid hB'
  clear hes hI hB hB'
  go_enter Try.func40, Try.ntmps40
  go_wp2_with (fail)
  refine H.out.mono ?_
  rintro e w2 ⟨rfl, hb⟩
  have hbb := Lib.hid hb
  have hz := hb.size
  have hE2' := Lib.hid (hE'.out.below hb hBB'.out)
  have hE2 := Lib.hid (hE.out.below hb hBB.out)
  clear hb
  cases hg : okCode es
  · have hR : Hid (runR es rs = []) := by simp [Hid, runR, hg]
    have hK : Hid ((okCode es && regsOk rs) = false) := by simp [Hid, hg]
    go_wp2
    go_ret2
    rw [hR.out, hK.out]; exact ⟨none, 0, rfl, OW.nil _ _ _, hbb.out⟩
  · have hG := Lib.hid hg
    have hC := Lib.hid (areWords_any L' B' A' c' rs w2 hl' hE2'.out)
    cases hr : regsOk rs
    · have hR : Hid (runR es rs = []) := by simp [Hid, runR, hr]
      have hK : Hid ((okCode es && regsOk rs) = false) := by simp [Hid, hr]
      rw [hr] at hC
      go_wp2_with (fail)
      refine hC.out.mono ?_
      rintro e w3 ⟨rfl, rfl⟩
      go_wp2
      go_ret2
      rw [hR.out, hK.out]; exact ⟨none, 0, rfl, OW.nil _ _ _, hbb.out⟩
    · have hR : Hid (runR es rs = runL es rs) := by simp [Hid, runR, hr, hg]
      have hK : Hid ((okCode es && regsOk rs) = true) := by simp [Hid, hr, hg]
      have h6 := regs_words hr
      have hW := Lib.hid h6
      have hrl := Lib.hid (runL_words (okCode_all hg) h6).1
      rw [hr] at hC
      obtain ⟨b', o', rfl, _, _⟩ := hE2'.out.six h6.1
      obtain ⟨r0, r1, r2, r3, r4, r5, rfl⟩ := six_list h6.1
      clear hr hg h6
      go_wp2_with (fail)
      refine hC.out.mono ?_
      rintro e w3 ⟨rfl, rfl⟩
      go_wp2_with (fail)
      refine (machineOf_any b' o' c' r0 r1 r2 r3 r4 r5 _ L' B' hE2'.out (by have := hBB'.out; omega)).mono ?_
      rintro e w4 ⟨rfl, hb4⟩
      have hz4 := hb4.size
      have hE4 := Lib.hid (hE2.out.below hb4 (by have := hBB.out; omega))
      have hbel4 := Lib.hid (hbb.out.trans (hb4.mono hz))
      clear hb4
      have hbel5 := fun o => Lib.hid (hbel4.out.alloc hbel4.out.size o)
      have hE5 := fun o => Lib.hid (hE4.out.below ((Below.refl w4.heap.size w4).alloc (Nat.le_refl _) o) (by have := hBB.out; omega))
      go_wp2_with (fail)
      refine (runSteps_any L B A c es w4.heap.size [r0, r1, r2, r3, r4, r5] _ hG.out (hE5 _).out (by have := hBB.out; omega) hW.out (heap_alloc_new w4 _)).mono ?_
      rintro e w5 ⟨rfl, hm5, hc5⟩
      have hbel6 := Lib.hid (below_chg (hbel5 _).out hc5 (by simp; omega) (by omega))
      have hM5 := Lib.hid hm5
      have hz5 := hc5.size
      simp at hz5
      clear hc5 hm5
      go_wp2_with (fail)
      refine (words_any w4.heap.size _ _ hrl.out hM5.out).mono ?_
      rintro e w6 ⟨g6, c6, rfl, hg6, ho6, hb6⟩
      have hO6 := Lib.hid ho6
      have hbel7 := Lib.hid (hbel6.out.trans (hb6.mono (by omega)))
      clear ho6 hb6
      go_wp2
      go_ret2
      rw [hR.out, hK.out]
      exact own6_res hrl.out (by omega) hO6.out hbel7.out

theorem okCode_one (x : In) : okCode [x] = goodIn x := by simp [okCode]
theorem runR_one (x : In) (rs : List Int) : runR [x] rs = stepR x rs := by simp only [runR, stepR, okCode_one]; rfl
/-- One instruction in a new slice. -/
theorem one_slice {w : World} {t : TypeId} (x : In) : RS In.enc 5 (w.alloc (.cells #[.string x.op, .int .i64 x.d, .int .i64 x.a, .int .i64 x.b, .int .i64 x.m] t)) w.heap.size (w.heap.size + 1) (some ⟨w.heap.size, 0, none⟩) [x] := In.boxed x
set_option maxHeartbeats 4000000 in
theorem iStepInstr_any (x : In) (L B : Nat) (A : Option Addr) (c : Nat) (rs : List Int) (w : World) (hl : rs.length ≤ 1048576) (hI : IS w L B A rs) (hB : B ≤ w.heap.size) :
    Calls Try.prog 35 #[.agg #[.string x.op, .int .i64 x.d, .int .i64 x.a, .int .i64 x.b, .int .i64 x.m], .slice A rs.length c] w (ResStepInstr (stepR x rs) (goodIn x && regsOk rs) w) := by
  have hE := Lib.hid hI
  have hC := fun (L0 B0 : Nat) (A0 : Option Addr) (c0 : Nat) (w' : World) (h0 : RS In.enc 5 w' L0 B0 A0 [x]) (hB0 : B0 ≤ w'.heap.size) (hI' : IS w' L B A rs) (hB' : B ≤ w'.heap.size) => iRunCode_any L0 B0 A0 c0 [x] L B A c rs w' (by simp) h0 hB0 hl hI' hB'
  simp only [runR_one, okCode_one, List.length_singleton] at hC
  have hCC := Lib.hid hC
  obtain ⟨op, d, a, b, m⟩ := x
  obtain ⟨o, ho⟩ : ∃ o : Obj, o = .cells #[.string op, .int .i64 d, .int .i64 a, .int .i64 b, .int .i64 m] 26 := ⟨_, rfl⟩
  have hone : Hid (RS In.enc 5 ((w.alloc o).alloc o) (w.heap.size + 1) (w.heap.size + 2) (some ⟨w.heap.size + 1, 0, none⟩) [⟨op, d, a, b, m⟩]) := by
    have := In.boxed (w := w.alloc o) (t := 26) ⟨op, d, a, b, m⟩
    rw [show (w.alloc o).heap.size = w.heap.size + 1 by simp] at this
    rw [Hid]; subst ho; exact this
  have hb0 := Lib.hid (((Below.refl w.heap.size w).alloc (Nat.le_refl _) o).alloc (by simp) o)
  have hE2 := Lib.hid (hE.out.below hb0.out hB)
  subst ho
  clear hI hC
  go_enter Try.func35, Try.ntmps35
  go_wp2_with (fail)
  refine (hCC.out (w.heap.size + 1) (w.heap.size + 2) (some ⟨w.heap.size + 1, 0, none⟩) 1 _ hone.out (by simp) hE2.out (by simp; omega)).mono ?_
  rintro e w1 ⟨A1, c1, rfl, ho1, hb1⟩
  have hO1 := Lib.hid (ho1.lower (show w.heap.size ≤ _ by simp; omega))
  have hbel1 := Lib.hid (hb0.out.trans (hb1.mono (by simp; omega)))
  clear ho1 hb1
  go_wp2
  go_ret2
  exact ⟨A1, c1, rfl, hO1.out, hbel1.out⟩
end Go.Proofs.Ytjnbgnnlpeoaoaa
