/- Texts of this proof, one behind the other: CS, TY, FNA, BQ, FNB, DR9. -/
import Derived.Test.YtmhdijklindipaaZ3
import Derived.WalkKit
import Derived.WalkSpells
import Derived.WalkLawsBesides
import Derived.Lib.Hide
import Derived.Test.YtmhdijklindipaaZ9
import Derived.Deep.RegionLaw
import Derived.Deep.RegionHeld3
import Derived.Deep.AppendLies
import Derived.Test.YtmhdijklindipaaZ10
import Derived.Test.YtmhdijklindipaaZ12
import Derived.Test.YtmhdijklindipaaZ14
import Derived.Test.YtmhdijklindipaaZ5
import Derived.Test.YtmhdijklindipaaZ13
import Derived.Test.YtmhdijklindipaaCG
namespace Go.Proofs.Ytmhdijklindipaa
open Go.RowKit
set_option linter.unusedVariables false
set_option maxRecDepth 100000

def resOk (es : List In) (x0 x1 r : Int) : Bool := okCode es && isW x0 && isW x1 && reg r
def resR (es : List In) (x0 x1 r : Int) : Int := if resOk es x0 x1 r = true then (runL es [x0, x1, 0, 0, 0, 0]).getD r.toNat 0 else 0
theorem start_words {x0 x1 : Int} (h0 : isW x0 = true) (h1 : isW x1 = true) : words6 [x0, x1, 0, 0, 0, 0] := by
  have a : inR x0 0 63 = true := h0
  have b : inR x1 0 63 = true := h1
  have z : inR 0 0 63 = true := by decide
  exact ⟨rfl, by simp [a, b, z]⟩
theorem cdStart_any (x0 x1 : Int) (w : World) :
    Calls Try.prog 152 #[.int .i64 x0, .int .i64 x1] w fun e w' => e = .returned (.slice (some ⟨w.heap.size, 0, none⟩) 6 6) ∧ IB w' w.heap.size 3 [x0, x1, 0, 0, 0, 0] ∧ Below w.heap.size w w' := by
  have hmk : (Instr.makeSlice 27 (.int .i64 6) (.int .i64 6)).run Try.prog w = .ok (.slice (some ⟨w.heap.size, 0, none⟩) 6 6) (w.alloc (.cells (intCells [0, 0, 0, 0, 0, 0]) 3)) := run_make_ints 6 (by omega) w
  have hi0 : IB (w.alloc (.cells (intCells [0, 0, 0, 0, 0, 0]) 3)) w.heap.size 3 [0, 0, 0, 0, 0, 0] := heap_alloc_new w _
  have hI0 := Lib.hid hi0
  have c0 := hi0.cell 0 (by simp)
  have f0 := hi0.frozen 0
  have c1 := (hi0.set 0 x0).cell 1 (by simp)
  have f1 := (hi0.set 0 x0).frozen 1
  have hI2 := Lib.hid ((hi0.set 0 x0).set 1 x1)
  have hB := Lib.hid ((((Below.refl w.heap.size w).alloc (Nat.le_refl _) (.cells (intCells [0, 0, 0, 0, 0, 0]) 3)).setCell (p := ⟨w.heap.size, 0, none⟩) (Nat.le_refl _) (.int .i64 x0)).setCell (p := ⟨w.heap.size, 1, none⟩) (Nat.le_refl _) (.int .i64 x1))
  clear hi0
  go_enter Try.func152, Try.ntmps152
  go_wp2
  go_ret
  exact ⟨rfl, heap_alloc_new w _, (Below.refl _ _).alloc (Nat.le_refl _) _⟩

set_option maxHeartbeats 4000000 in
theorem sRunCode_any (L B : Nat) (A : Option Addr) (c : Nat) (es : List In) (L' B' : Nat) (A' : Option Addr) (c' : Nat) (rs : List Int) (w : World) (hl : es.length ≤ 1048576) (hes : RS In.enc 5 w L B A es) (hB : B ≤ w.heap.size) (hl' : rs.length ≤ 1048576) (hI : IS w L' B' A' rs) (hB' : B' ≤ w.heap.size) :
    Calls Try.prog 35 #[.slice A es.length c, .slice A' rs.length c'] w (ResRunCode (runR es rs) (okCode es && regsOk rs) w) := by
  have H := Lib.hid (cdCode_any L B A c es w hl hes hB)
  have hE := Lib.hid hes
  have hE' := Lib.hid hI
  have hBB := Lib.hid hB
  have hBB' := Lib.hid hB'
  clear hes hI hB hB'
  go_enter Try.func35, Try.ntmps35
  go_wp2_with (fail)
  refine H.out.mono ?_
  rintro e w2 ⟨rfl, hb⟩
  have hbb := Lib.hid hb
  have hz := hb.size
  have hE2' := Lib.hid (hE'.out.below hb hBB'.out)
  have hE2 := Lib.hid (hE.out.below hb hBB.out)
  clear hb
  cases hg : okCode es
  · have hR : Hid (runR es rs = []) := by simp [Hid, runR, hg]
    have hK : Hid ((okCode es && regsOk rs) = false) := by simp [Hid, hg]
    go_wp2
    go_ret2
    rw [hR.out, hK.out]; exact ⟨none, 0, rfl, OW.nil _ _ _, hbb.out⟩
  · have hG := Lib.hid hg
    have hC := Lib.hid (cdRegs_any L' B' A' c' rs w2 hl' hE2'.out)
    cases hr : regsOk rs
    · have hR : Hid (runR es rs = []) := by simp [Hid, runR, hr]
      have hK : Hid ((okCode es && regsOk rs) = false) := by simp [Hid, hr]
      rw [hr] at hC
      go_wp2_with (fail)
      refine hC.out.mono ?_
      rintro e w3 ⟨rfl, rfl⟩
      go_wp2
      go_ret2
      rw [hR.out, hK.out]; exact ⟨none, 0, rfl, OW.nil _ _ _, hbb.out⟩
    · have hR : Hid (runR es rs = runL es rs) := by simp [Hid, runR, hr, hg]
      have hK : Hid ((okCode es && regsOk rs) = true) := by simp [Hid, hr, hg]
      have h6 := regs_words hr
      have hW := Lib.hid h6
      have hrl := Lib.hid (runL_words (okCode_all hg) h6).1
      rw [hr] at hC
      rw [show rs.length = 6 from h6.1] at hC ⊢
      obtain ⟨b', o', rfl, _, _⟩ := hE2'.out.six h6.1
      clear hr hg h6
      go_wp2_with (fail)
      refine hC.out.mono ?_
      rintro e w3 ⟨rfl, rfl⟩
      go_wp2_with (fail)
      refine (cdRun_any L B A c es b' o' c' rs L' B' _ hG.out hE2.out (by have := hBB.out; omega) hW.out hE2'.out (by have := hBB'.out; omega)).mono ?_
      rintro e w6 ⟨g6, c6, rfl, hg6, ho6, hb6⟩
      have hO6 := Lib.hid ho6
      have hbel7 := Lib.hid (hbb.out.trans (hb6.mono (by omega)))
      clear ho6 hb6
      go_wp2
      go_ret2
      rw [hR.out, hK.out]
      exact own6_res hrl.out (by omega) hO6.out hbel7.out

set_option maxHeartbeats 4000000 in
theorem sResultOf_any (L B : Nat) (A : Option Addr) (c : Nat) (es : List In) (x0 x1 r : Int) (w : World) (hl : es.length ≤ 1048576) (hes : RS In.enc 5 w L B A es) (hB : B ≤ w.heap.size) :
    Calls Try.prog 40 #[.slice A es.length c, .int .i64 x0, .int .i64 x1, .int .i64 r] w (ResResultOf (resR es x0 x1 r) (resOk es x0 x1 r) w) := by
  have H := Lib.hid (cdCode_any L B A c es w hl hes hB)
  have hE := Lib.hid hes
  have hBB := Lib.hid hB
  clear hes hB
  go_enter Try.func40, Try.ntmps40
  go_wp2_with (fail)
  refine H.out.mono ?_
  rintro e w2 ⟨rfl, hb⟩
  have hbb := Lib.hid hb
  have hz := hb.size
  have hE2 := Lib.hid (hE.out.below hb hBB.out)
  clear hb
  cases h0 : okCode es
  · have hK : Hid (resOk es x0 x1 r = false) := by simp [Hid, resOk, h0]
    have hR : Hid (resR es x0 x1 r = 0) := by simp [Hid, resR, hK.out]
    go_wp2_with (first | (go_at_call 118; refine (exWord_w _ _).mono ?_; rintro e w' ⟨rfl, rfl⟩) | (go_at_call 151; refine (cdReg_any _ _).mono ?_; rintro e w' ⟨rfl, rfl⟩))
    go_ret2
    rw [hR.out, hK.out]; exact ⟨rfl, hbb.out⟩
  cases h1 : isW x0
  · have hK : Hid (resOk es x0 x1 r = false) := by simp [Hid, resOk, h0, h1]
    have hR : Hid (resR es x0 x1 r = 0) := by simp [Hid, resR, hK.out]
    go_wp2_with (first | (go_at_call 118; refine (exWord_w _ _).mono ?_; rintro e w' ⟨rfl, rfl⟩) | (go_at_call 151; refine (cdReg_any _ _).mono ?_; rintro e w' ⟨rfl, rfl⟩))
    go_ret2
    rw [hR.out, hK.out]; exact ⟨rfl, hbb.out⟩
  cases h2 : isW x1
  · have hK : Hid (resOk es x0 x1 r = false) := by simp [Hid, resOk, h0, h1, h2]
    have hR : Hid (resR es x0 x1 r = 0) := by simp [Hid, resR, hK.out]
    go_wp2_with (first | (go_at_call 118; refine (exWord_w _ _).mono ?_; rintro e w' ⟨rfl, rfl⟩) | (go_at_call 151; refine (cdReg_any _ _).mono ?_; rintro e w' ⟨rfl, rfl⟩))
    go_ret2
    rw [hR.out, hK.out]; exact ⟨rfl, hbb.out⟩
  cases h3 : reg r
  · have hK : Hid (resOk es x0 x1 r = false) := by simp [Hid, resOk, h0, h1, h2, h3]
    have hR : Hid (resR es x0 x1 r = 0) := by simp [Hid, resR, hK.out]
    go_wp2_with (first | (go_at_call 118; refine (exWord_w _ _).mono ?_; rintro e w' ⟨rfl, rfl⟩) | (go_at_call 151; refine (cdReg_any _ _).mono ?_; rintro e w' ⟨rfl, rfl⟩))
    go_ret2
    rw [hR.out, hK.out]; exact ⟨rfl, hbb.out⟩
  have hK : Hid (resOk es x0 x1 r = true) := by simp [Hid, resOk, h0, h1, h2, h3]
  have hR : Hid (resR es x0 x1 r = (runL es [x0, x1, 0, 0, 0, 0]).getD r.toNat 0) := by simp [Hid, resR, hK.out]
  have hW := Lib.hid (start_words h1 h2)
  have hG := Lib.hid h0
  have hrl := Lib.hid (runL_words (okCode_all h0) hW.out).1
  obtain ⟨hr0, hr1⟩ := (inR_iff _ _ _).1 h3
  obtain ⟨nr, rfl⟩ := Int.eq_ofNat_of_zero_le hr0
  simp only [Int.toNat_natCast] at hR
  have hc1 := h1
  have hc2 := h2
  have hc3 := h3
  clear h0 hr0
  go_wp2_with (first | (go_at_call 118; refine (exWord_w _ _).mono ?_; rintro e w' ⟨rfl, rfl⟩) | (go_at_call 151; refine (cdReg_any _ _).mono ?_; rintro e w' ⟨rfl, rfl⟩))
  clear h1 h2 h3 hc1 hc2 hc3
  refine (cdStart_any x0 x1 _).mono ?_
  rintro e w3 ⟨rfl, hst, hb3⟩
  have hz3 := hb3.size
  have hE3 := Lib.hid (hE2.out.below hb3 (by have := hBB.out; omega))
  have hbel3 := Lib.hid (hbb.out.trans (hb3.mono hz))
  have hst' := Lib.hid hst
  have hlt3 := hst.lt
  clear hb3 hst
  go_wp2_with (fail)
  refine (cdRun_any L B A c es w2.heap.size 0 6 [x0, x1, 0, 0, 0, 0] w2.heap.size (w2.heap.size + 1) _ hG.out hE3.out (by have := hBB.out; omega) hW.out hst'.out.toIS (by omega)).mono ?_
  rintro e w4 ⟨g4, c4, rfl, hg4, ho4, hb4⟩
  have hbel4 := Lib.hid (hbel3.out.trans (hb4.mono (by omega)))
  have d1 := ho4.at6 nr (by rw [hrl.out]; omega)
  generalize (runL es [x0, x1, 0, 0, 0, 0]).getD nr 0 = y at d1 hR
  clear ho4 hb4
  have i0 : (0 : Int) ≤ (nr : Int) := by omega
  have i1 : (nr : Int) < 6 := by omega
  go_wp2
  go_ret2
  rw [hR.out, hK.out]; exact ⟨rfl, hbel4.out⟩

set_option maxHeartbeats 4000000 in
theorem iResultOf_any (L B : Nat) (A : Option Addr) (c : Nat) (es : List In) (x0 x1 r : Int) (w : World) (hl : es.length ≤ 1048576) (hes : RS In.enc 5 w L B A es) (hB : B ≤ w.heap.size) :
    Calls Try.prog 39 #[.slice A es.length c, .int .i64 x0, .int .i64 x1, .int .i64 r] w (ResResultOf (resR es x0 x1 r) (resOk es x0 x1 r) w) := by
  have H := Lib.hid (IsCode_any L B A c es w hl hes hB)
  have hE := Lib.hid hes
  have hBB := Lib.hid hB
  clear hes hB
  go_enter Try.func39, Try.ntmps39
  go_wp2_with (fail)
  refine H.out.mono ?_
  rintro e w2 ⟨rfl, hb⟩
  have hbb := Lib.hid hb
  have hz := hb.size
  have hE2 := Lib.hid (hE.out.below hb hBB.out)
  clear hb
  cases h0 : okCode es
  · have hK : Hid (resOk es x0 x1 r = false) := by simp [Hid, resOk, h0]
    have hR : Hid (resR es x0 x1 r = 0) := by simp [Hid, resR, hK.out]
    go_wp2_with (first | (go_at_call 115; refine (isWord_any _ _).mono ?_; rintro e w' ⟨rfl, rfl⟩) | (go_at_call 150; refine (isRegister_any _ _).mono ?_; rintro e w' ⟨rfl, rfl⟩))
    go_ret2
    rw [hR.out, hK.out]; exact ⟨rfl, hbb.out⟩
  cases h1 : isW x0
  · have hK : Hid (resOk es x0 x1 r = false) := by simp [Hid, resOk, h0, h1]
    have hR : Hid (resR es x0 x1 r = 0) := by simp [Hid, resR, hK.out]
    go_wp2_with (first | (go_at_call 115; refine (isWord_any _ _).mono ?_; rintro e w' ⟨rfl, rfl⟩) | (go_at_call 150; refine (isRegister_any _ _).mono ?_; rintro e w' ⟨rfl, rfl⟩))
    go_ret2
    rw [hR.out, hK.out]; exact ⟨rfl, hbb.out⟩
  cases h2 : isW x1
  · have hK : Hid (resOk es x0 x1 r = false) := by simp [Hid, resOk, h0, h1, h2]
    have hR : Hid (resR es x0 x1 r = 0) := by simp [Hid, resR, hK.out]
    go_wp2_with (first | (go_at_call 115; refine (isWord_any _ _).mono ?_; rintro e w' ⟨rfl, rfl⟩) | (go_at_call 150; refine (isRegister_any _ _).mono ?_; rintro e w' ⟨rfl, rfl⟩))
    go_ret2
    rw [hR.out, hK.out]; exact ⟨rfl, hbb.out⟩
  cases h3 : reg r
  · have hK : Hid (resOk es x0 x1 r = false) := by simp [Hid, resOk, h0, h1, h2, h3]
    have hR : Hid (resR es x0 x1 r = 0) := by simp [Hid, resR, hK.out]
    go_wp2_with (first | (go_at_call 115; refine (isWord_any _ _).mono ?_; rintro e w' ⟨rfl, rfl⟩) | (go_at_call 150; refine (isRegister_any _ _).mono ?_; rintro e w' ⟨rfl, rfl⟩))
    go_ret2
    rw [hR.out, hK.out]; exact ⟨rfl, hbb.out⟩
  have hK : Hid (resOk es x0 x1 r = true) := by simp [Hid, resOk, h0, h1, h2, h3]
  have hR : Hid (resR es x0 x1 r = (runL es [x0, x1, 0, 0, 0, 0]).getD r.toNat 0) := by simp [Hid, resR, hK.out]
  have hW := Lib.hid (start_words h1 h2)
  have hG := Lib.hid h0
  have hrl := Lib.hid (runL_words (okCode_all h0) hW.out).1
  obtain ⟨hr0, hr1⟩ := (inR_iff _ _ _).1 h3
  obtain ⟨nr, rfl⟩ := Int.eq_ofNat_of_zero_le hr0
  simp only [Int.toNat_natCast] at hR
  have hc1 := h1
  have hc2 := h2
  have hc3 := h3
  clear h0 hr0
  have hbel3 := fun o => Lib.hid (hbb.out.alloc hz o)
  have hE3 := fun o => Lib.hid (hE2.out.below ((Below.refl w2.heap.size w2).alloc (Nat.le_refl _) o) (by have := hBB.out; omega))
  go_wp2_with (first | (go_at_call 115; refine (isWord_any _ _).mono ?_; rintro e w' ⟨rfl, rfl⟩) | (go_at_call 150; refine (isRegister_any _ _).mono ?_; rintro e w' ⟨rfl, rfl⟩))
  clear h1 h2 h3 hc1 hc2 hc3
  refine (runSteps_any L B A c es w2.heap.size [x0, x1, 0, 0, 0, 0] _ hG.out (hE3 _).out (by have := hBB.out; omega) hW.out (heap_alloc_new w2 _)).mono ?_
  rintro e w5 ⟨rfl, hm5, hc5⟩
  have hbel6 := Lib.hid (below_chg (hbel3 _).out hc5 (by simp; omega) (by omega))
  have d1 : w5.cell? ⟨w2.heap.size, nr, none⟩ = some (.int .i64 ((runL es [x0, x1, 0, 0, 0, 0]).getD nr 0)) := by have := hm5.six hrl.out nr (by omega); rwa [Nat.zero_add] at this
  generalize (runL es [x0, x1, 0, 0, 0, 0]).getD nr 0 = y at d1 hR
  clear hm5 hc5
  have i0 : (0 : Int) ≤ (nr : Int) := by omega
  have i1 : (nr : Int) < 6 := by omega
  go_wp2
  go_ret2
  rw [hR.out, hK.out]; exact ⟨rfl, hbel6.out⟩
end Go.Proofs.Ytmhdijklindipaa

/- TraceOf: plain, and the model. -/
namespace Go.Proofs.Ytmhdijklindipaa
open Go.RowKit
set_option linter.unusedVariables false
set_option maxRecDepth 100000

def trL (es : List In) (rs : List Int) (k : Nat) : List (List Int) := (List.range (k + 1)).map fun i => runL (es.take i) rs
theorem trL_len (es : List In) (rs : List Int) (k : Nat) : (trL es rs k).length = k + 1 := by simp [trL]
theorem trL_zero (es : List In) (rs : List Int) : trL es rs 0 = [rs] := rfl
theorem trL_succ (es : List In) (rs : List Int) (k : Nat) : trL es rs (k + 1) = trL es rs k ++ [runL (es.take (k + 1)) rs] := by
  unfold trL; rw [List.range_succ, List.map_append]; rfl
theorem trL_last (es : List In) (rs : List Int) (k : Nat) (h : k < (trL es rs k).length) : (trL es rs k)[k] = runL (es.take k) rs := by simp [trL]
def trOk (es : List In) (rs : List Int) : Bool := okCode es && regsOk rs
def trR (es : List In) (rs : List Int) : List (List Int) := if trOk es rs = true then trL es rs es.length else []
theorem trOk_no1 {es : List In} (rs : List Int) (h : okCode es = false) : trOk es rs = false ∧ trR es rs = [] := by
  have h1 : trOk es rs = false := by unfold trOk; rw [h]; rfl
  exact ⟨h1, by unfold trR; rw [h1]; rfl⟩
theorem trOk_no2 (es : List In) {rs : List Int} (h : regsOk rs = false) : trOk es rs = false ∧ trR es rs = [] := by
  have h1 : trOk es rs = false := by unfold trOk; rw [h]; simp
  exact ⟨h1, by unfold trR; rw [h1]; rfl⟩
theorem trOk_yes {es : List In} {rs : List Int} (h1 : okCode es = true) (h2 : regsOk rs = true) : trOk es rs = true ∧ trR es rs = trL es rs es.length := by
  have h3 : trOk es rs = true := by unfold trOk; rw [h1, h2]; rfl
  exact ⟨h3, by unfold trR; rw [if_pos h3]⟩
theorem regsOk_words {rs : List Int} (h : regsOk rs = true) : words6 rs := by
  unfold regsOk at h
  rw [Bool.and_eq_true] at h
  exact ⟨by simpa using h.1, h.2⟩
theorem trR_small (es : List In) (rs : List Int) : SmallX (trR es rs) := by
  unfold trR
  split
  · rename_i h
    unfold trOk at h
    rw [Bool.and_eq_true] at h
    have h1 := okCode_len h.1
    have h6 := regsOk_words h.2
    have hall := okCode_all h.1
    have hs : ∀ k, ((trL es rs k).map List.length).sum = 6 * (k + 1) := by
      intro k
      induction k with
      | zero => simp [trL_zero, h6.1]
      | succ k ih => rw [trL_succ, List.map_append, List.sum_append, ih]; simp [(runL_words_take hall h6 (k + 1)).1]; omega
    exact ⟨by rw [trL_len]; omega, by rw [hs]; omega⟩
  · exact ⟨by simp, by simp⟩

set_option maxHeartbeats 4000000 in
theorem sTraceOf_k (L B : Nat) (A : Option Addr) (c : Nat) (es : List In) (L' B' : Nat) (A' : Option Addr) (c' : Nat) (rs : List Int) (w : World) (hl : es.length ≤ 1048576) (hes : RS In.enc 5 w L B A es) (hB : B ≤ w.heap.size) (hn : rs.length ≤ 1048576) (hns : IS w L' B' A' rs) (hB' : B' ≤ w.heap.size) :
    Calls Try.prog 33 #[.slice A es.length c, .slice A' rs.length c'] w (ResTraceOf (trR es rs) (trOk es rs) w) := by
  have H := Lib.hid (cdCode_any L B A c es w hl hes hB)
  cases hk : okCode es
  · have hR := Lib.hid (trOk_no1 rs hk)
    rw [hk] at H
    clear hk hes hns
    go_enter Try.func33, Try.ntmps33
    go_wp2_with (fail)
    refine H.out.mono ?_
    rintro e w1 ⟨rfl, hb1⟩
    have hbh := Lib.hid hb1
    clear hb1
    go_wp2
    go_ret2
    rw [hR.out.1, hR.out.2]
    exact ⟨none, 0, rfl, OX.nil _ _ _, hbh.out⟩
  have H2 := Lib.hid fun (W : World) (hW : Below w.heap.size w W) => cdRegs_any L' B' A' c' rs W hn (hns.below hW hB')
  cases hr : regsOk rs
  · have hR := Lib.hid (trOk_no2 es hr)
    rw [hk] at H
    rw [hr] at H2
    clear hk hr hes hns
    go_enter Try.func33, Try.ntmps33
    go_wp2_with (fail)
    refine H.out.mono ?_
    rintro e w1 ⟨rfl, hb1⟩
    have hbh := Lib.hid hb1
    clear hb1
    go_wp2_with (fail)
    refine (H2.out _ hbh.out).mono ?_
    rintro e w2 ⟨rfl, rfl⟩
    go_wp2
    go_ret2
    rw [hR.out.1, hR.out.2]
    exact ⟨none, 0, rfl, OX.nil _ _ _, hbh.out⟩
  have hR := Lib.hid (trOk_yes hk hr)
  have h6 := regsOk_words hr
  have hall := Lib.hid (okCode_all hk)
  have hl40 := okCode_len hk
  have hW6 := Lib.hid fun (k : Nat) => runL_words_take hall.out h6 k
  have hRs := Lib.hid fun (k : Nat) (h : k < es.length) => runL_snoc (rs := rs) h
  have hTs := Lib.hid (trL_succ es rs)
  have hTl := Lib.hid (trL_len es rs)
  have hTa := Lib.hid (trL_last es rs)
  have hT0 := Lib.hid (trL_zero es rs)
  have H3 := Lib.hid fun (W : World) (hW : Below w.heap.size w W) => l1Own_any L' B' A' c' rs W hn (hns.below hW hB') (Nat.le_trans hB' hW.size)
  have hE := Lib.hid fun (W : World) (hW : Below w.heap.size w W) => hes.below hW hB
  have hBB := Lib.hid hB
  rw [hk] at H
  rw [hr] at H2
  clear hk hr hes hns hB hB'
  generalize trL es rs = T at *
  obtain ⟨i0, hi', hz0', hz1', hz2'⟩ := info_parts Try.infoII
  have hJ0 := Lib.hid hi'
  have hJ1 := Lib.hid hz0'
  have hJ2 := Lib.hid hz1'
  have hJ3 := Lib.hid hz2'
  clear hi' hz0' hz1' hz2'
  go_enter Try.func33, Try.ntmps33
  go_wp2_with (fail)
  refine H.out.mono ?_
  rintro e w1 ⟨rfl, hb1⟩
  have hbh := Lib.hid hb1
  clear hb1
  go_wp2_with (fail)
  refine (H2.out _ hbh.out).mono ?_
  rintro e w2 ⟨rfl, rfl⟩
  go_wp2_with (fail)
  refine (H3.out _ hbh.out).mono ?_
  rintro e w3 ⟨A3, c3, rfl, ho3, hb3⟩
  have hz1 := hbh.out.size
  have hz3 := hb3.size
  have A4 := (Below.refl w3.heap.size w3).alloc (Nat.le_refl _) (.cells #[.slice A3 rs.length c3] 27)
  have hX4 : Hid (OX (w3.alloc (.cells #[.slice A3 rs.length c3] 27)) w.heap.size (w3.alloc (.cells #[.slice A3 rs.length c3] 27)).heap.size (.slice (some ⟨w3.heap.size, 0, none⟩) 1 1) [rs]) := by
    have hcb : CB 27 (w3.alloc (.cells #[.slice A3 rs.length c3] 27)) w3.heap.size [.slice A3 rs.length c3] := heap_alloc_new w3 _
    exact OX.of (okv_one hcb (by omega) (by simp)) (RowsX.mk1 (((ho3.lower hz1).below A4 (Nat.le_refl _)).more A4.size))
  have hb4 := Lib.hid ((hbh.out.trans (hb3.mono hz1)).trans (A4.mono (by omega)))
  clear A4 ho3 hb3
  go_wp2
  generalize w3.alloc (.cells #[.slice A3 rs.length c3] 27) = W4 at *
  go_loopw [6, 22] (fun v i wr => ∃ k : Nat, k ≤ es.length ∧ i = .int .i64 k ∧ OX wr w.heap.size wr.heap.size v (T k) ∧ Below w.heap.size w wr) (fun _ i _ => es.length - (intOf i).toNat)
  case atStart => exact ⟨0, Nat.zero_le _, rfl, by rw [hT0.out]; exact hX4.out, hb4.out⟩
  case round =>
    obtain ⟨k, hk, rfl, hox, hbel⟩ := hrel
    obtain ⟨A5, c5, rfl⟩ := hox.form
    have hX := Lib.hid hox
    have hBL := Lib.hid hbel
    clear hox
    by_cases hlt : k < es.length
    · obtain ⟨b, o, rfl, ⟨_, hbB⟩, hc⟩ := In.cells (hE.out _ hbel) (by omega)
      obtain ⟨d1, d2, d3, d4, d5⟩ := hc k hlt
      have hg := Lib.hid (hall.out _ (List.getElem_mem hlt))
      have hT1 := Lib.hid (hTs.out k)
      have hRk := Lib.hid (hRs.out k hlt)
      have hw6 := Lib.hid (hW6.out k)
      have hlk := hTl.out k
      have hla := hTa.out k (by omega)
      obtain ⟨xb, xo, Ai, ci, rfl, xc, hOW⟩ := hX.out.at (i := k) (by omega)
      rw [hla, hw6.out.1] at xc
      rw [hla] at hOW
      rw [hw6.out.1] at hOW
      obtain ⟨yb, yo, rfl, ⟨_, hyb⟩, _⟩ := IS.six hOW.rs hw6.out.1
      clear hc hbel hla
      rw [hlk] at hX ⊢
      generalize es[k] = x at *
      generalize hRR : runL (es.take (k + 1)) rs = Rn at *
      generalize runL (es.take k) rs = Rk at *
      generalize hTT : T (k + 1) = Tn at *
      have hTTh := Lib.hid hTT
      clear hTT hRR hlk
      generalize T k = Tk at *
      obtain ⟨n, hn1⟩ : ∃ n, n = k + 1 := ⟨_, rfl⟩
      rw [← hn1] at hX ⊢
      have e0 : (n : Int) - 1 = (k : Int) := by omega
      have hkn : (k : Int) < (n : Int) := by omega
      have hn41 : (n : Int) ≤ 41 := by omega
      have hwk : IntKind.i64.wrap (k : Int) = (k : Int) := IntWalk.i64_in _ (by omega)
      have hn41' : n ≤ 41 := by omega
      have hN1 := Lib.hid hn1
      obtain ⟨W5, hW5⟩ : ∃ W5, W5 = wr.alloc (.cells #[.string x.op, .int .i64 x.d, .int .i64 x.a, .int .i64 x.b, .int .i64 x.m] 56) := ⟨_, rfl⟩
      have A5 : Below wr.heap.size wr W5 := by rw [hW5]; exact (Below.refl wr.heap.size wr).alloc (Nat.le_refl _) _
      have X5 : XB W5 wr.heap.size x := by rw [hW5]; exact XB.new wr x
      have hX5 := Lib.hid (show OX W5.drew w.heap.size W5.drew.heap.size (.slice (some ⟨xb, xo, none⟩) n c5) Tk from ((hX.out.below A5 (Nat.le_refl _)).more A5.size).below (Below.refl W5.heap.size W5).drew (Nat.le_refl _))
      have hB5 := Lib.hid (hBL.out.trans (A5.mono hBL.out.size))
      have hSt := Lib.hid (cdStep_any x yb yo ci Rk w.heap.size wr.heap.size W5.drew hg.out hw6.out ((hOW.rs.below A5 (Nat.le_refl _)).below (Below.refl W5.heap.size W5).drew A5.size) A5.size)
      have hBd := Lib.hid hB5.out.drew
      rw [← hRk.out] at hSt
      have xc5 := Lib.hid ((A5.cell (p := ⟨xb, xo + k, none⟩) (by
        rcases Nat.lt_or_ge xb wr.heap.size with h9 | h9
        · exact h9
        · simp [World.cell?, Array.getElem?_eq_none h9] at xc)).trans xc)
      have hW5h := Lib.hid hW5.symm
      clear hOW hn1 hg hRk hw6 A5 hW5 xc hX
      obtain ⟨op, d, a, b1, m⟩ := x
      dsimp only at d1 d2 d3 d4 d5 hSt hW5h
      go_wp2
      rw [hW5h.out]
      obtain ⟨xg, hxg⟩ : ∃ xg, xg = wr.heap.size := ⟨_, rfl⟩
      rw [← hxg] at X5 ⊢
      obtain ⟨n0, n1, n2, n3, n4⟩ := XB.cells X5
      dsimp only at n0 n1 n2 n3 n4
      have xcc := xc5.out
      have e1 : (0 : Int) ≤ (k : Int) := by omega
      clear d1 d2 d3 d4 d5 hW5h hxg X5 xc5 hBL
      go_region_law (first
        | (go_simp; go_at_call 145; (with_reducible refine hSt.out.mono ?_); rintro e w6 ⟨g6, c6, rfl, hg6, ho6, hb6⟩; have hO6 := (ho6.lower hg6).more (ho6.lo g6 rfl |>.2 |> fun _ => (ho6.1.lt g6 rfl).2); obtain ⟨vs, hvn, HL, HN, H1, HK, Hlo⟩ := snocX hX5.out hBd.out.size hb6 hO6; have hB6 := Lib.hid (hBd.out.trans (hb6.mono hBd.out.size)); have HL := Lib.hid HL; have HN := Lib.hid HN; have H1 := Lib.hid H1; have HK := Lib.hid HK; have Hlo := Lib.hid Hlo; have hz6 := Lib.hid hB6.out.size; clear ho6 hb6 hO6 hg6)
        | (refine step_append_lies _ rfl _ _ 50 rfl w.heap.size 27 i0 _ 1 24 Try.underlying50 hJ0.out hJ1.out hJ2.out hJ3.out rfl (by decide) _ n _ (by rfl) HL.out ⟨w6.heap.size, 0, none⟩ 1 1 _ (by rfl) rfl HN.out H1.out (by omega) (by unfold maxLen; omega) (by omega) (by have := hz6.out; simp; omega) (w6.heap.size + 1) (by simp) ?_; intro g' cap w7 hown7 hgr7 _ _))
      all_goals
        have hX7 := HK.out g' cap w7 hown7 hgr7
        have hB7 := Lib.hid ((hB6.out.alloc hz6.out (.cells #[.slice (some ⟨g6, 0, none⟩) 6 c6] 27)).grown hgr7 (by have := hz6.out; simp; omega) (fun j hj => Hlo.out j hj))
        have hX8 := Lib.hid (show OX w7 w.heap.size w7.heap.size (.slice (some ⟨g', 0, none⟩) (n + 1) cap) Tn from by rw [hT1.out]; exact hX7)
        clear hX7 hown7 hgr7 xcc n0 n1 n2 n3 n4
        go_wp2
        go_roundw
        case rel => exact ⟨k + 1, by omega, by go_num, by rw [hTTh.out]; exact hX8.out, hB7.out⟩
        case measure => simp [intOf]; omega
    · obtain rfl : k = es.length := by omega
      clear hbel
      go_wp2
      go_ret2
      rw [hR.out.1, hR.out.2]
      exact ⟨A5, c5, rfl, hX.out, hBL.out⟩
end Go.Proofs.Ytmhdijklindipaa

/- Chapter 2, plain: swapped neighbours, renamed registers, dead code. -/
namespace Go.Proofs.Ytmhdijklindipaa
open Go.RowKit
set_option linter.unusedVariables false
set_option maxRecDepth 100000

theorem mem_put1 (a b r : Int) : r ∈ put (put [] a) b ↔ r = a ∨ r = b := by
  rw [put_nil]
  unfold put
  by_cases h1 : a < b
  · simp [h1]
  · by_cases h2 : a = b
    · subst h2; simp
    · simp [h1, h2]; exact or_comm
theorem mem_reads {x : In} {r : Int} : r ∈ readsL x ↔ ((fm x.op).a = true ∧ r = x.a) ∨ ((fm x.op).b = true ∧ r = x.b) := by
  cases ha : (fm x.op).a <;> cases hb : (fm x.op).b
  · rw [reads_ff x (a := true) (b := true) ha hb]; simp
  · rw [reads_ft x ha hb, put_nil]; simp
  · rw [reads_tf x ha hb, put_nil]; simp
  · rw [reads_tt x ha hb, mem_put1]; simp
theorem vOf_a {s : ByteArray} (hok : (fm s).ok = true) (h : (fm s).a = false) (m a a' b : Int) : vOf s m a b = vOf s m a' b := by
  rcases cop_cases s with h1|h1|h1|h1|h1|h1|h1|h1|h1|h1|h1|h1|h1|h1|h1|h1|h1|h1|h1|h1|h1
  all_goals first | (simp [vOf, h1]; done) | (simp [fm, h1] at h; done) | (rw [fm_no h1] at hok; cases hok)
theorem vOf_b {s : ByteArray} (hok : (fm s).ok = true) (h : (fm s).b = false) (m a b b' : Int) : vOf s m a b = vOf s m a b' := by
  rcases cop_cases s with h1|h1|h1|h1|h1|h1|h1|h1|h1|h1|h1|h1|h1|h1|h1|h1|h1|h1|h1|h1|h1
  all_goals first | (simp [vOf, ap, h1]; done) | (simp [fm, h1] at h; done) | (rw [fm_no h1] at hok; cases hok)
theorem vOf_reads {x : In} {rs rs' : List Int} (hx : goodIn x = true) (h : ∀ r ∈ readsL x, rs.getD r.toNat 0 = rs'.getD r.toNat 0) :
    vOf x.op x.m (rs.getD x.a.toNat 0) (rs.getD x.b.toNat 0) = vOf x.op x.m (rs'.getD x.a.toNat 0) (rs'.getD x.b.toNat 0) := by
  have hok := (good_parts hx).2.2.2.1
  have e1 : vOf x.op x.m (rs.getD x.a.toNat 0) (rs.getD x.b.toNat 0) = vOf x.op x.m (rs'.getD x.a.toNat 0) (rs.getD x.b.toNat 0) := by
    cases ha : (fm x.op).a
    · exact vOf_a hok ha _ _ _ _
    · rw [h x.a (mem_reads.2 (.inl ⟨ha, rfl⟩))]
  have e2 : vOf x.op x.m (rs'.getD x.a.toNat 0) (rs.getD x.b.toNat 0) = vOf x.op x.m (rs'.getD x.a.toNat 0) (rs'.getD x.b.toNat 0) := by
    cases hb : (fm x.op).b
    · exact vOf_b hok hb _ _ _ _
    · rw [h x.b (mem_reads.2 (.inr ⟨hb, rfl⟩))]
  rw [e1, e2]
theorem getD_set9 {xs : List Int} {k i : Nat} (v : Int) (hk : k < xs.length) : (xs.set k v).getD i 0 = if k = i then v else xs.getD i 0 := by
  rw [List.getD_eq_getElem?_getD, List.getElem?_set]
  by_cases e : k = i
  · subst e; simp [hk]
  · rw [if_neg e, if_neg e, ← List.getD_eq_getElem?_getD]
theorem stepL_len (x : In) (rs : List Int) : (stepL x rs).length = rs.length := by unfold stepL; rw [List.length_set]
theorem runL_len (es : List In) : ∀ rs, (runL es rs).length = rs.length := by
  induction es with
  | nil => intro rs; rfl
  | cons x l ih => intro rs; show (runL l (stepL x rs)).length = _; rw [ih, stepL_len]
theorem runL_app (a b : List In) (rs : List Int) : runL (a ++ b) rs = runL b (runL a rs) := by unfold runL; rw [List.foldl_append]
theorem runL_cons (x : In) (l : List In) (rs : List Int) : runL (x :: l) rs = runL l (stepL x rs) := rfl
theorem sumC_from (es : List In) : ∀ n, es.foldl (fun n x => n + (fm x.op).c) n = n + sumC es := by
  unfold sumC
  induction es with
  | nil => intro n; simp
  | cons x l ih => intro n; rw [List.foldl_cons, List.foldl_cons, ih, ih (0 + _)]; omega
theorem sumC_cons (x : In) (l : List In) : sumC (x :: l) = (fm x.op).c + sumC l := by
  show (x :: l).foldl _ 0 = _
  rw [List.foldl_cons, sumC_from]; omega
theorem sumC_app (a b : List In) : sumC (a ++ b) = sumC a + sumC b := by
  induction a with
  | nil => simp [sumC]
  | cons x l ih => rw [List.cons_append, sumC_cons, sumC_cons, ih]; omega
theorem step_get {x : In} {rs : List Int} (hx : goodIn x = true) (hl : rs.length = 6) (i : Nat) : (stepL x rs).getD i 0 = if x.d.toNat = i then vOf x.op x.m (rs.getD x.a.toNat 0) (rs.getD x.b.toNat 0) else rs.getD i 0 := by
  have hd := (good_parts hx).1
  exact getD_set9 _ (by omega)

/- Independent neighbours. -/
theorem step_swap {x y : In} {rs : List Int} (hx : goodIn x = true) (hy : goodIn y = true) (hf : freeB x y = true) (hl : rs.length = 6) : stepL y (stepL x rs) = stepL x (stepL y rs) := by
  have hdx := (good_parts hx).1
  have hdy := (good_parts hy).1
  unfold freeB at hf
  simp only [Bool.and_eq_true, Bool.not_eq_true'] at hf
  obtain ⟨⟨h1, h2⟩, h3⟩ := hf
  have hne : x.d ≠ y.d := by simpa using h1
  have hmem : ∀ {l : List Int} {n : Int}, hasI l n = false → ∀ r ∈ l, r ≠ n := fun {l n} h r hr e => by
    unfold hasI at h
    rw [List.any_eq_false] at h
    exact h r hr (by simpa using e)
  have hr1 := hmem h2
  have hr2 := hmem h3
  have e1 := vOf_reads (rs := stepL x rs) (rs' := rs) hy (fun r hr => by
    rw [step_get hx hl, if_neg]
    have hi := reads_in hy r hr
    have := hr2 r hr
    unfold In6 at hi; omega)
  have e2 := vOf_reads (rs := stepL y rs) (rs' := rs) hx (fun r hr => by
    rw [step_get hy hl, if_neg]
    have hi := reads_in hx r hr
    have := hr1 r hr
    unfold In6 at hi; omega)
  have g1 : stepL y (stepL x rs) = (stepL x rs).set y.d.toNat (vOf y.op y.m (rs.getD y.a.toNat 0) (rs.getD y.b.toNat 0)) := by rw [← e1]; rfl
  have g2 : stepL x (stepL y rs) = (stepL y rs).set x.d.toNat (vOf x.op x.m (rs.getD x.a.toNat 0) (rs.getD x.b.toNat 0)) := by rw [← e2]; rfl
  rw [g1, g2]
  unfold stepL
  exact List.set_comm _ _ (by omega)
theorem swap_split {es : List In} {k : Nat} (h : k + 1 < es.length) : es = es.take k ++ es[k] :: es[k + 1] :: es.drop (k + 2) := by
  rw [← List.drop_eq_getElem_cons (by omega), ← List.drop_eq_getElem_cons (by omega), List.take_append_drop]
theorem swap_list {es : List In} {k : Nat} (h : k + 1 < es.length) : (es.set k es[k + 1]).set (k + 1) es[k] = es.take k ++ es[k + 1] :: es[k] :: es.drop (k + 2) := by
  apply List.ext_getElem
  · simp; omega
  · intro i h1 h2
    simp only [List.getElem_set, List.getElem_append, List.length_take, List.getElem_take, List.getElem_cons, List.getElem_drop]
    repeat' split
    all_goals first | rfl | omega | skip
    all_goals congr 1; omega
theorem swap_run {es : List In} {k : Nat} (h : k + 1 < es.length) (hg : ∀ x ∈ es, goodIn x = true) (hf : freeB es[k] es[k + 1] = true) {rs : List Int} (hl : rs.length = 6) : runL ((es.set k es[k + 1]).set (k + 1) es[k]) rs = runL es rs := by
  rw [swap_list h]
  conv => rhs; rw [swap_split h]
  rw [runL_app, runL_app, runL_cons, runL_cons, runL_cons, runL_cons]
  congr 1
  exact (step_swap (hg _ (List.getElem_mem _)) (hg _ (List.getElem_mem _)) hf (by rw [runL_len]; exact hl)).symm
theorem freeB_comm (x y : In) : freeB x y = freeB y x := by
  rw [free_touch, free_touch, Bool.and_comm]
theorem getD_in9 {es : List In} {k : Nat} (h : k < es.length) : es.getD k zeroIn = es[k] := by rw [List.getD_eq_getElem?_getD, List.getElem?_eq_getElem h]; rfl
theorem swOk_parts9 {es : List In} {i : Int} (h : swOk es i = true) : ∃ k : Nat, i = k ∧ ∃ hk : k + 1 < es.length, okCode es = true ∧ freeB es[k] es[k + 1] = true ∧ swapR es i = (es.set k es[k + 1]).set (k + 1) es[k] := by
  have h0 := h
  simp only [swOk, Bool.and_eq_true] at h0
  obtain ⟨⟨h1, h2⟩, h3⟩ := h0
  obtain ⟨k, rfl, hk⟩ := inR_nat h2
  rw [Int.toNat_natCast, getD_in9 (by omega), getD_in9 hk] at h3
  refine ⟨k, rfl, hk, h1, h3, ?_⟩
  unfold swapR
  rw [if_pos h, Int.toNat_natCast, getD_in9 (k := k) (by omega), getD_in9 (k := k + 1) hk]
theorem swapR_ok {es : List In} {i : Int} (h : swOk es i = true) : okCode (swapR es i) = true ∧ (swapR es i).length = es.length := by
  obtain ⟨k, rfl, hk, h1, h2, e⟩ := swOk_parts9 h
  rw [e]
  refine ⟨?_, by simp⟩
  have hl := okCode_len h1
  have ha := okCode_all h1
  unfold okCode
  rw [Bool.and_eq_true, List.all_eq_true]
  refine ⟨decide_eq_true (by simpa using hl), fun x hx => ?_⟩
  rcases List.mem_or_eq_of_mem_set hx with hx | rfl
  · rcases List.mem_or_eq_of_mem_set hx with hx | rfl
    · exact ha _ hx
    · exact ha _ (List.getElem_mem _)
  · exact ha _ (List.getElem_mem _)
theorem swap_swap {es : List In} {i : Int} (h : swOk es i = true) : swOk (swapR es i) i = true ∧ swapR (swapR es i) i = es := by
  obtain ⟨hok, hln⟩ := swapR_ok h
  obtain ⟨k, rfl, hk, h1, h2, e⟩ := swOk_parts9 h
  have a1 : (swapR es k).getD k zeroIn = es[k + 1] := by rw [e, List.getD_eq_getElem?_getD, List.getElem?_set_ne (by omega), List.getElem?_set_self (by omega)]; rfl
  have a2 : (swapR es k).getD (k + 1) zeroIn = es[k] := by rw [e, List.getD_eq_getElem?_getD, List.getElem?_set_self (by simp; exact hk)]; rfl
  have g : swOk (swapR es k) k = true := by
    unfold swOk
    rw [hok, Int.toNat_natCast, a1, a2, freeB_comm, h2, (inR_iff _ _ _).2 (by rw [hln]; omega)]; rfl
  refine ⟨g, ?_⟩
  rw [show swapR (swapR es k) k = if swOk (swapR es k) k = true then ((swapR es k).set (k : Int).toNat ((swapR es k).getD ((k : Int).toNat + 1) zeroIn)).set ((k : Int).toNat + 1) ((swapR es k).getD (k : Int).toNat zeroIn) else [] from rfl, if_pos g, Int.toNat_natCast, a1, a2, e]
  apply List.ext_getElem
  · simp
  · intro i h1 h2
    simp only [List.getElem_set]
    repeat' split
    all_goals first | rfl | (subst_vars; rfl) | omega

/- Renamed registers. -/
def relN (ns rs rs' : List Int) : Prop := rs'.length = 6 ∧ ∀ r, r < 6 → rs'.getD (ns.getD r 0).toNat 0 = rs.getD r 0
theorem names_parts {ns : List Int} (h : namesOk ns = true) : ns.length = 6 ∧ (∀ r, r < 6 → 0 ≤ ns.getD r 0 ∧ ns.getD r 0 ≤ 5) ∧ ∀ r q, r < 6 → q < 6 → ns.getD r 0 = ns.getD q 0 → r = q := by
  have hl := names6 h
  unfold namesOk onceB at h
  rw [Bool.and_eq_true, Bool.and_eq_true] at h
  obtain ⟨⟨_, h2⟩, h3⟩ := h
  have h3 := of_decide_eq_true h3
  have gd : ∀ r (hr : r < ns.length), ns.getD r 0 = ns[r] := fun r hr => by rw [List.getD_eq_getElem?_getD, List.getElem?_eq_getElem hr]; rfl
  refine ⟨hl, fun r hr => ?_, fun r q hr hq e => ?_⟩
  · rw [gd r (by omega)]
    unfold allIn at h2
    rw [List.all_eq_true] at h2
    exact (inR_iff _ _ _).1 (h2 _ (List.getElem_mem _))
  · rw [gd r (by omega), gd q (by omega)] at e
    have hp := List.pairwise_iff_getElem.1 h3
    rcases Nat.lt_trichotomy r q with h | h | h
    · exact absurd e (hp r q (by omega) (by omega) h)
    · exact h
    · exact absurd e.symm (hp q r (by omega) (by omega) h)
theorem ren_step {ns : List Int} (hn : namesOk ns = true) {x : In} (hx : goodIn x = true) {rs rs' : List Int} (hl : rs.length = 6) (h : relN ns rs rs') : relN ns (stepL x rs) (stepL (ren ns x) rs') := by
  obtain ⟨hl', hr⟩ := h
  obtain ⟨n6, nb, ni⟩ := names_parts hn
  obtain ⟨hd, ha, hb, hok, _⟩ := good_parts hx
  have hv : vOf x.op x.m (rs'.getD (ren ns x).a.toNat 0) (rs'.getD (ren ns x).b.toNat 0) = vOf x.op x.m (rs.getD x.a.toNat 0) (rs.getD x.b.toNat 0) := by
    have e1 : vOf x.op x.m (rs'.getD (ren ns x).a.toNat 0) (rs'.getD (ren ns x).b.toNat 0) = vOf x.op x.m (rs.getD x.a.toNat 0) (rs'.getD (ren ns x).b.toNat 0) := by
      cases h1 : (fm x.op).a
      · exact vOf_a hok h1 _ _ _ _
      · have : (ren ns x).a = ns.getD x.a.toNat 0 := by unfold ren; simp only; rw [if_pos h1]
        rw [this, hr _ (by omega)]
    rw [e1]
    cases h1 : (fm x.op).b
    · exact vOf_b hok h1 _ _ _ _
    · have : (ren ns x).b = ns.getD x.b.toNat 0 := by unfold ren; simp only; rw [if_pos h1]
      rw [this, hr _ (by omega)]
  have hdb := nb x.d.toNat (by omega)
  refine ⟨by rw [stepL_len, hl'], fun r hr6 => ?_⟩
  have hnb := nb r hr6
  have s1 : stepL (ren ns x) rs' = rs'.set (ns.getD x.d.toNat 0).toNat (vOf x.op x.m (rs.getD x.a.toNat 0) (rs.getD x.b.toNat 0)) := by rw [← hv]; rfl
  rw [s1, step_get hx hl, getD_set9 _ (by omega)]
  by_cases e : x.d.toNat = r
  · rw [if_pos e, if_pos (by rw [e])]
  · rw [if_neg e, if_neg, hr r hr6]
    intro e2
    exact e (ni _ _ (by omega) hr6 (by omega))
theorem ren_run {ns : List Int} (hn : namesOk ns = true) : ∀ {es : List In}, (∀ x ∈ es, goodIn x = true) → ∀ {rs rs' : List Int}, rs.length = 6 → relN ns rs rs' → relN ns (runL es rs) (runL (es.map (ren ns)) rs')
  | [], _, rs, rs', _, h => h
  | x :: l, hg, rs, rs', hl, h => by
    rw [List.map_cons, runL_cons, runL_cons]
    exact ren_run hn (fun y hy => hg y (by simp [hy])) (by rw [stepL_len]; exact hl) (ren_step hn (hg x (by simp)) hl h)
theorem ren_cost (ns : List Int) (es : List In) : sumC (es.map (ren ns)) = sumC es := by
  induction es with
  | nil => rfl
  | cons x l ih => rw [List.map_cons, sumC_cons, sumC_cons, ih]; rfl
/-- The words under their names. -/
def mvN (ns rs : List Int) (k : Nat) : List Int := (List.range k).foldl (fun m r => m.set (ns.getD r 0).toNat (rs.getD r 0)) (List.replicate 6 0)
theorem mvN_succ (ns rs : List Int) (k : Nat) : mvN ns rs (k + 1) = (mvN ns rs k).set (ns.getD k 0).toNat (rs.getD k 0) := by unfold mvN; rw [List.range_succ, List.foldl_append]; rfl
theorem mvN_len (ns rs : List Int) : ∀ k, (mvN ns rs k).length = 6
  | 0 => by simp [mvN]
  | k + 1 => by rw [mvN_succ, List.length_set, mvN_len ns rs k]
theorem mvN_get {ns : List Int} (hn : namesOk ns = true) (rs : List Int) : ∀ k, k ≤ 6 → ∀ r, r < k → (mvN ns rs k).getD (ns.getD r 0).toNat 0 = rs.getD r 0
  | 0, _, r, hr => by omega
  | k + 1, hk, r, hr => by
    obtain ⟨n6, nb, ni⟩ := names_parts hn
    have h1 := nb k (by omega)
    have h2 := nb r (by omega)
    rw [mvN_succ, getD_set9 _ (by rw [mvN_len]; omega)]
    by_cases e : k = r
    · subst e; rw [if_pos rfl]
    · rw [if_neg fun e2 => e (ni _ _ (by omega) (by omega) (by omega))]
      exact mvN_get hn rs k (by omega) r (by omega)
theorem mvN_rel {ns : List Int} (hn : namesOk ns = true) (rs : List Int) : relN ns rs (mvN ns rs 6) := ⟨mvN_len _ _ _, fun r hr => mvN_get hn rs 6 (by omega) r hr⟩

/- Dead code. -/
def agr (bs : List Bool) (rs rs' : List Int) : Prop := ∀ i, i < 6 → bs.getD i false = true → rs.getD i 0 = rs'.getD i 0
theorem bkB_get {bs : List Bool} (hb : bs.length = 6) {x : In} (hx : goodIn x = true) {i : Nat} (hi : i < 6) : (bkB bs x).getD i false = true ↔ (((i : Int) ∈ readsL x) ∨ (x.d.toNat ≠ i ∧ bs.getD i false = true)) := by
  have hd := (good_parts hx).1
  have h := setsB_get (readsL x) (bs.set x.d.toNat false) (reads_in hx) (by rw [List.length_set]; exact hb) i hi
  have e : bkB bs x = setsB (bs.set x.d.toNat false) (readsL x) := by unfold bkB bkTo setsB; rw [List.take_length]
  rw [e, h, getDB_set _ _ _ (by omega)]
  by_cases e2 : x.d.toNat = i
  · rw [if_pos e2]; simp [e2]
  · rw [if_neg e2]; simp [e2, or_comm]
theorem agr_step {bs : List Bool} (hb : bs.length = 6) {x : In} (hx : goodIn x = true) {rs rs' : List Int} (hl : rs.length = 6) (hl' : rs'.length = 6) (h : agr (bkB bs x) rs rs') : agr bs (stepL x rs) (stepL x rs') := by
  intro i hi hbi
  rw [step_get hx hl, step_get hx hl']
  by_cases e : x.d.toNat = i
  · rw [if_pos e, if_pos e]
    refine vOf_reads hx fun r hr => ?_
    have h6 := reads_in hx r hr
    unfold In6 at h6
    obtain ⟨q, rfl⟩ := Int.eq_ofNat_of_zero_le h6.1
    rw [Int.toNat_natCast]
    exact h q (by omega) ((bkB_get hb hx (by omega)).2 (.inl hr))
  · rw [if_neg e, if_neg e]
    exact h i hi ((bkB_get hb hx hi).2 (.inr ⟨e, hbi⟩))
theorem agr_dead {bs : List Bool} {x : In} (hx : goodIn x = true) {rs rs' : List Int} (hl : rs.length = 6) (hd : bs.getD x.d.toNat false = false) (h : agr bs rs rs') : agr bs (stepL x rs) rs' := by
  intro i hi hbi
  rw [step_get hx hl, if_neg]
  · exact h i hi hbi
  · intro e; rw [e, hbi] at hd; cases hd
theorem ddS_cons (bs : List Bool) (x : In) (cs : List In) : ddS bs (x :: cs) = ddStep x (ddS bs cs) := rfl
theorem dd_run {bs : List Bool} (hb : bs.length = 6) : ∀ {cs : List In}, (∀ x ∈ cs, goodIn x = true) → ∀ {rs rs' : List Int}, rs.length = 6 → rs'.length = 6 → agr (ddS bs cs).2 rs rs' → agr bs (runL cs rs) (runL (ddS bs cs).1 rs')
  | [], _, rs, rs', _, _, h => h
  | x :: cs, hg, rs, rs', hl, hl', h => by
    have hx := hg x (by simp)
    have hg' : ∀ y ∈ cs, goodIn y = true := fun y hy => hg y (by simp [hy])
    have hl2 : (ddS bs cs).2.length = 6 := by rw [(ddS_len bs cs).2]; exact hb
    rw [ddS_cons] at h ⊢
    unfold ddStep at h ⊢
    rw [runL_cons]
    cases hk : (ddS bs cs).2.getD x.d.toNat false
    · rw [hk] at h
      simp only [Bool.false_eq_true, if_false] at h ⊢
      exact dd_run hb hg' (by rw [stepL_len]; exact hl) hl' (agr_dead hx hl hk h)
    · rw [hk] at h
      simp only [if_true] at h ⊢
      rw [runL_cons]
      exact dd_run hb hg' (by rw [stepL_len]; exact hl) (by rw [stepL_len]; exact hl') (agr_step hl2 hx hl hl' h)
theorem dd_sub {bs : List Bool} (hb : bs.length = 6) : ∀ {cs : List In}, (∀ x ∈ cs, goodIn x = true) → ∀ i, i < 6 → (ddS bs cs).2.getD i false = true → (lvS bs cs).getD i false = true
  | [], _, i, hi, h => h
  | x :: cs, hg, i, hi, h => by
    have hx := hg x (by simp)
    have ih := dd_sub hb (cs := cs) fun y hy => hg y (by simp [hy])
    have hl2 : (ddS bs cs).2.length = 6 := by rw [(ddS_len bs cs).2]; exact hb
    have hl3 : (lvS bs cs).length = 6 := by rw [lvS_len]; exact hb
    show (bkB (lvS bs cs) x).getD i false = true
    rw [bkB_get hl3 hx hi]
    rw [ddS_cons] at h
    unfold ddStep at h
    cases hk : (ddS bs cs).2.getD x.d.toNat false
    · rw [hk] at h
      simp only [Bool.false_eq_true, if_false] at h
      refine .inr ⟨fun e => ?_, ih i hi h⟩
      rw [e, h] at hk; cases hk
    · rw [hk] at h
      simp only [if_true] at h
      rcases (bkB_get hl2 hx hi).1 h with h1 | ⟨h1, h2⟩
      · exact .inl h1
      · exact .inr ⟨h1, ih i hi h2⟩
theorem dd_idem (bs : List Bool) : ∀ cs : List In, ddS bs (ddS bs cs).1 = ddS bs cs
  | [] => rfl
  | x :: cs => by
    have ih := dd_idem bs cs
    rw [ddS_cons]
    unfold ddStep
    cases hk : (ddS bs cs).2.getD x.d.toNat false
    · simp only [Bool.false_eq_true, if_false]; exact ih
    · simp only [if_true]
      rw [ddS_cons, ih]
      unfold ddStep
      rw [hk]; rfl
end Go.Proofs.Ytmhdijklindipaa

/- DropDead: both sides as the law takes them. -/
namespace Go.Proofs.Ytmhdijklindipaa
open Go.RowKit
set_option linter.unusedVariables false
set_option maxRecDepth 100000
theorem ddR_len (cs : List In) (out : List Int) : (ddR cs out).length ≤ 1048576 := by
  unfold ddR
  split
  · rename_i h
    unfold ddOk at h
    rw [Bool.and_eq_true] at h
    have h1 := okCode_len h.1
    have := (ddS_len (setsTo out out.length) cs).1
    omega
  · simp
set_option maxHeartbeats 4000000 in
theorem iDropDead_k (L B : Nat) (A : Option Addr) (c : Nat) (cs : List In) (L' B' : Nat) (A' : Option Addr) (c' : Nat) (out : List Int) (w : World) (hl : cs.length ≤ 1048576) (hes : RS In.enc 5 w L B A cs) (hB : B ≤ w.heap.size) (hn : out.length ≤ 1048576) (hns : IS w L' B' A' out) (hB' : B' ≤ w.heap.size) :
    Calls Try.prog 61 #[.slice A cs.length c, .slice A' out.length c'] w (ResDropDead (ddR cs out) (ddOk cs out) w) := by
  have H := Lib.hid (IsCode_any L B A c cs w hl hes hB)
  cases hk : okCode cs
  · have hR := Lib.hid (show ddR cs out = [] by unfold ddR ddOk; rw [hk]; rfl)
    have hO := Lib.hid (show ddOk cs out = false by unfold ddOk; rw [hk]; rfl)
    rw [hk] at H
    clear hk hes hns
    go_enter Try.func61, Try.ntmps61
    go_wp2_with (fail)
    refine H.out.mono ?_
    rintro e w1 ⟨rfl, hb1⟩
    have hbh := Lib.hid hb1
    clear hb1
    go_wp2
    go_ret2
    rw [hR.out, hO.out]
    exact ⟨none, 0, rfl, OK.nil _ _ _ _, hbh.out⟩
  cases hr : riseB out
  · have H2 := Lib.hid fun (W : World) (hW : Below w.heap.size w W) => areRegisters_any L' B' A' c' out W hn (hns.below hW hB')
    have hR := Lib.hid (show ddR cs out = [] by unfold ddR ddOk; rw [hk, hr]; rfl)
    have hO := Lib.hid (show ddOk cs out = false by unfold ddOk; rw [hk, hr]; rfl)
    rw [hk] at H
    rw [hr] at H2
    clear hk hr hes hns
    go_enter Try.func61, Try.ntmps61
    go_wp2_with (fail)
    refine H.out.mono ?_
    rintro e w1 ⟨rfl, hb1⟩
    have hbh := Lib.hid hb1
    clear hb1
    go_wp2_with (fail)
    refine (H2.out _ hbh.out).mono ?_
    rintro e w2 ⟨rfl, rfl⟩
    go_wp2
    go_ret2
    rw [hR.out, hO.out]
    exact ⟨none, 0, rfl, OK.nil _ _ _ _, hbh.out⟩
  exact iDropDead_go L B L' B' A A' c c' cs out w hk hr hn hes hB hns hB'
theorem sDropDead_k (L B : Nat) (A : Option Addr) (c : Nat) (cs : List In) (L' B' : Nat) (A' : Option Addr) (c' : Nat) (out : List Int) (w : World) (hl : cs.length ≤ 1048576) (hes : RS In.enc 5 w L B A cs) (hB : B ≤ w.heap.size) (hn : out.length ≤ 1048576) (hns : IS w L' B' A' out) (hB' : B' ≤ w.heap.size) :
    Calls Try.prog 62 #[.slice A cs.length c, .slice A' out.length c'] w (ResDropDead (ddR cs out) (ddOk cs out) w) := sDropDead_any L B L' B' A A' c c' cs out w hl hn hes hB hns hB'
end Go.Proofs.Ytmhdijklindipaa

/- Plain facts of FnDeadCodeGoes: what dead code and live sets have to do with each other. -/
namespace Go.Proofs.Ytmhdijklindipaa
open Go.RowKit
set_option linter.unusedVariables false

theorem rise_len6 {xs : List Int} (h : riseB xs = true) : xs.length ≤ 6 := by
  have := mkT_len6 (setsTo xs xs.length)
  rw [(rise_bits h).2] at this
  exact this
theorem dead_facts {cs : List In} {ws : List Int} (h : ddOk cs ws = true) :
    okCode cs = true ∧ (lsR cs ws).length = cs.length + 1 ∧ (lsR cs ws)[0]? = some (lbR cs ws) ∧ (lsR cs ws)[cs.length]? = some ws ∧ maR cs ws = maxTo (lsR cs ws) (cs.length + 1) ∧
    ddOk (ddR cs ws) ws = true ∧ ddR (ddR cs ws) ws = ddR cs ws ∧ (ddR cs ws).length ≤ cs.length ∧ okCode (ddR cs ws) = true ∧ (∀ r ∈ ws, In6 r) := by
  have h0 := h
  unfold ddOk at h0
  rw [Bool.and_eq_true] at h0
  obtain ⟨h1, h2⟩ := h0
  have e1 : lsR cs ws = lvX (setsTo ws ws.length) cs := by unfold lsR; rw [if_pos h]
  have e2 : lbR cs ws = mkT (lvS (setsTo ws ws.length) cs) := by unfold lbR; rw [if_pos h]
  have e3 : ddR cs ws = (ddS (setsTo ws ws.length) cs).1 := by unfold ddR; rw [if_pos h]
  have hl : (lsR cs ws).length = cs.length + 1 := by rw [e1, lvX_len]
  have hk : okCode (ddR cs ws) = true := by
    rw [e3]; unfold okCode
    rw [Bool.and_eq_true]
    have := (ddS_len (setsTo ws ws.length) cs).1
    have := okCode_len h1
    exact ⟨decide_eq_true (by omega), List.all_eq_true.2 (ddS_good _ (okCode_all h1))⟩
  have hd : ddOk (ddR cs ws) ws = true := by unfold ddOk; rw [hk, h2]; rfl
  refine ⟨h1, hl, ?_, ?_, ?_, hd, ?_, ?_, hk, (rise_bits h2).1⟩
  · rw [e1, e2]; exact lvX_at _ cs 0 (Nat.zero_le _)
  · rw [e1, lvX_at _ cs cs.length (Nat.le_refl _), List.drop_length]
    exact congrArg some (rise_bits h2).2
  · unfold maR; rw [hl]
  · have e4 : ddR (ddR cs ws) ws = (ddS (setsTo ws ws.length) (ddR cs ws)).1 := by rw [ddR, if_pos hd]
    rw [e4, e3, dd_idem]
  · rw [e3]; exact (ddS_len _ cs).1
theorem dead_run {cs : List In} {ws : List Int} (h : ddOk cs ws = true) {rs rs' : List Int} (hl : rs.length = 6) (hl' : rs'.length = 6) (ha : ∀ r : Nat, r < 6 → hasI (lbR cs ws) r = true → rs'.getD r 0 = rs.getD r 0) :
    ∀ p : Nat, (p : Int) ∈ ws → (runL cs rs).getD p 0 = (runL (ddR cs ws) rs').getD p 0 := by
  have h0 := h
  unfold ddOk at h0
  rw [Bool.and_eq_true] at h0
  obtain ⟨h1, h2⟩ := h0
  have e2 : lbR cs ws = mkT (lvS (setsTo ws ws.length) cs) := by unfold lbR; rw [if_pos h]
  have e3 : ddR cs ws = (ddS (setsTo ws ws.length) cs).1 := by unfold ddR; rw [if_pos h]
  have hb := setsTo_len ws ws.length
  rw [e3]
  intro p hp
  have hp6 : p < 6 := by have := (rise_bits h2).1 _ hp; unfold In6 at this; omega
  refine dd_run hb (okCode_all h1) hl hl' (fun i hi hi2 => ?_) p hp6 ?_
  · refine (ha i hi ?_).symm
    rw [e2, hasI_mkT hi]
    exact dd_sub hb (okCode_all h1) i hi hi2
  · rw [← hasI_mkT hp6, (rise_bits h2).2]
    unfold hasI
    rw [List.any_eq_true]
    exact ⟨_, hp, by simp⟩
end Go.Proofs.Ytmhdijklindipaa

/- What FnRenamedAndSwapped draws: a code and the names of its registers, laid by insertion. -/
namespace Go.Proofs.Ytmhdijklindipaa
open Go.RowKit
set_option linter.unusedVariables false
set_option maxRecDepth 100000

theorem IS.takeD {w : World} {L B : Nat} {A : Option Addr} {xs : List Int} (h : IS w L B A xs) (k : Nat) : IS w L B A (xs.take k) := fun h0 => by
  rw [List.length_take] at h0
  obtain ⟨b, o, e, hb, hc⟩ := h (by omega)
  refine ⟨b, o, e, hb, fun i hi => ?_⟩
  rw [List.length_take] at hi
  rw [List.getElem_take]
  exact hc i (by omega)
def GotN (w w' : World) (v : Value) (xs : List Int) : Prop := ∃ (A : Option Addr) (c : Nat), v = .slice A xs.length c ∧ xs.length = 6 ∧ xs.length ≤ c ∧ IS w' w.heap.size w'.heap.size A xs
theorem Dd.belowD {w W W' : World} {L g K : Nat} (h : Dd w L g K W) (hb : Below W.heap.size W W') : Dd w L g K W' := h.step (h.cur.below hb) (Chg.ofBelow hb)
theorem RS.belowD {W W' : World} {L B : Nat} {A : Option Addr} {xs : List In} (h : RS In.enc 5 W L B A xs) (hb : Below W.heap.size W W') (hB : B ≤ W.heap.size) : RS In.enc 5 W' L B A xs :=
  h.chg (Chg.ofBelow (lo := B) (hi := B) hb) hB (.inl (Nat.le_refl _))

set_option maxHeartbeats 8000000 in
theorem DrawRenameCode_d (A : Option Addr) (c : Nat) (bs : List Int) (w : World) (hl : bs.length ≤ 1048576) (ha : ∀ x ∈ bs, 0 ≤ x ∧ x ≤ 255) (hy : BY w w.heap.size A bs) :
    Calls Try.prog 51 #[.slice A bs.length c] w fun e w' => ∃ (v1 v2 : Value) (xs : List In) (ys : List Int), e = .returned (.tuple #[v1, v2]) ∧ GotC w w' v1 41 xs ∧ GotN w w' v2 ys ∧ Below w.heap.size w w' := by
  obtain ⟨i0, hi', hz0, hz1, hz2⟩ := info_parts Try.infoInt
  have hI0 := Lib.hid hi'
  have hI1 := Lib.hid hz0
  have hI2 := Lib.hid hz1
  have hI3 := Lib.hid hz2
  clear hi' hz0 hz1 hz2
  have hOwn := Lib.hid fun (L B : Nat) (A : Option Addr) (m c : Nat) (ys : List Int) (W : World) (hm : m = ys.length) (hl : ys.length ≤ 20) (hx : IS W L B A ys) (hB : B ≤ W.heap.size) => (by subst hm; exact l1Own_any L B A c ys W (by omega) hx hB : Calls Try.prog 144 #[.slice A m c] W (FreshI W ys))
  have hPk := Lib.hid fun (K : Nat) (n : Int) (W : World) (hK : K ≤ 900000000) (hn : n ≤ 10000) (hc : Cur W w.heap.size K) => pick_any w.heap.size K n W hK hn hc
  have hOne := Lib.hid fun (K : Nat) (n : Int) (W : World) (hK : K ≤ 900000000) (hn : n ≤ 10000) (hc : Cur W w.heap.size K) => one_any w.heap.size K n W hK hn hc
  have d0 := Lib.hid (dd_start w A c bs hl ha hy)
  clear hy
  go_enter Try.func51, Try.ntmps51
  have H := Lib.hid (anyCode_any w.heap.size 0 9 (w.alloc (.cells #[.slice A bs.length c, .int .i64 0, .int .u64 0] 101)) (by omega) (by omega) d0.out.cur)
  rw [show ((9 : Nat) : Int) = 9 from rfl] at H
  go_wp2_with (fail)
  refine H.out.mono ?_
  rintro e w1 ⟨xs0, A0, c0, rfl, hn0, hcap0', hsz', hok, hcu, hch⟩
  have d1 := Lib.hid (d0.out.step hcu hch)
  have hcap0 := Lib.hid hcap0'
  have hsz0 := Lib.hid hsz'
  have r0 := Lib.hid ((OK.rsD hok).more d0.out.sz (Nat.le_refl _))
  clear hcap0' hsz' hok hcu hch H d0
  go_wp2
  go_loopw [6, 7] (fun v q wr => ∃ (k : Nat) (ns : List Int), k ≤ 6 ∧ ns.length = k ∧ q = .int .i64 k ∧ OW wr w1.heap.size wr.heap.size v ns ∧ Dd w (w.heap.size + 1) w.heap.size (1200 + 2 * k) wr ∧ w1.heap.size ≤ wr.heap.size ∧ RS In.enc 5 wr (w.heap.size + 1) w1.heap.size A0 xs0 ∧ (k = 0 → v = .slice none 0 0)) (fun _ q _ => 6 - (intOf q).toNat)
  case atStart => exact ⟨0, [], by omega, rfl, rfl, OW.nil _ _ _, d1.out, Nat.le_refl _, r0.out, fun _ => rfl⟩
  case round =>
    obtain ⟨k, ns, hk, hnl, rfl, how, hd', hws, hrs, hz⟩ := hrel
    have hO := Lib.hid how
    have hD := Lib.hid hd'
    have hR := Lib.hid hrs
    have hNl := Lib.hid hnl
    have hLw := Lib.hid d1.out.sz
    clear how hd' hrs hnl d1 r0
    by_cases hlt : k < 6
    · have hki : (k : Int) < 6 := by omega
      have hk0 : (0 : Int) ≤ (k : Int) := by omega
      have H := Lib.hid (hPk.out (1200 + 2 * k) ((k : Int) + 1) wr (by omega) (by omega) hD.out.cur)
      go_wp2_with (fail)
      refine H.out.mono ?_
      rintro e w2 ⟨y, rfl, hy, hcu, hch⟩
      have hO2 := Lib.hid (show OW w2 w1.heap.size w2.heap.size _ ns from (hO.out.chgD hch (.inr hLw.out)).more hch.size)
      have hR2 := Lib.hid (show RS In.enc 5 w2 (w.heap.size + 1) w1.heap.size A0 xs0 from hR.out.chg hch hws (.inr (Nat.le_refl _)))
      have hD2 := Lib.hid (hD.out.step hcu hch)
      have hws2 : w1.heap.size ≤ w2.heap.size := Nat.le_trans hws hch.size
      have hy2 : 0 ≤ y ∧ y ≤ (k : Int) := by omega
      clear hcu hch H hO hR hD hy hws
      obtain ⟨j, rfl⟩ := Int.eq_ofNat_of_zero_le hy2.1
      have hj : j ≤ k := by omega
      have hj0 : (0 : Int) ≤ (j : Int) := by omega
      have hji : (j : Int) ≤ (k : Int) := by omega
      clear hy2
      rcases Nat.eq_zero_or_pos k with rfl | hkp
      · obtain rfl := hz rfl
        obtain rfl : j = 0 := by omega
        have hn0' : ns = [] := List.eq_nil_of_length_eq_zero hNl.out
        subst hn0'
        clear hz
        have hO1 := Lib.hid (hOwn.out 0 0 none 0 0 [] w2 rfl (by simp) (fun h => absurd h (by simp)) (Nat.zero_le _))
        go_wp2_with (fail)
        refine hO1.out.mono ?_
        rintro e w3 ⟨A2, c2, rfl, how2, hb2⟩
        have hown0 := Lib.hid how2.1
        have hB2 := Lib.hid hb2
        have hb2s := hb2.size
        clear how2 hb2
        go_wp2_with (first
          | (at_builtin; refine wpList_append_own _ rfl (.tmp 26) (.tmp 28) 27 rfl w2.heap.size 3 i0 (.int .i64 0) 1 8 Try.underlying27 hI0.out hI1.out hI2.out hI3.out rfl (by decide) _ 0 _ rfl (hown0.out.alloc _) ⟨w3.heap.size, 0, none⟩ 1 1 [.int .i64 0] rfl rfl (new1 rfl) (one1 _) (by unfold maxLen; omega) (by omega) (by simp; omega) ?_; intro v4 w4 hown4 hgr4 _; have hb4 := Lib.hid ((hB2.out.alloc hb2s _).grown hgr4 (by simp; omega) (fun j hj => (hown0.out.lt j hj).1)); have hb4s := hb4.out.size)
          | (at_builtin; refine wpList_append_src rfl (.tmp 30) (.tmp 33) 27 rfl w2.heap.size 3 i0 (.int .i64 0) 1 8 Try.underlying27 hI0.out hI1.out hI2.out hI3.out rfl (by decide) v4 (0 + 1) _ rfl hown4 none 0 _ [] rfl (by simp) (fun h => absurd h (by omega)) (by simp) (by unfold maxLen; omega) (by omega) (by omega) ?_; intro v5 w5 hown5 hgr5 _; have hb5 := Lib.hid (hb4.out.grown hgr5 hb4s (fun j hj => (hown4.lt j hj).1))))
        have hrow : Hid (OW w5 w2.heap.size w5.heap.size v5 [0]) := OW.ofRow (by simpa using hown5) rfl
        have hrow2 := Lib.hid (hrow.out.lower hws2)
        have hD5 := Lib.hid (hD2.out.belowD hb5.out)
        have hR5 := Lib.hid (hR2.out.belowD hb5.out hws2)
        have hs5 := Nat.le_trans hws2 hb5.out.size
        clear hown5 hgr5 hown4 hgr4
        go_wp2
        go_roundw
        case rel => exact ⟨1, [0], by omega, rfl, by go_num, hrow2.out, hD5.out, hs5, hR5.out, fun h => by omega⟩
        case measure => simp [intOf]
      · clear hz
        obtain ⟨V, cv, rfl, _⟩ := hO2.out.form
        rw [hNl.out] at hO2 ⊢
        obtain ⟨g, rfl, hgl, hzz⟩ := OW.someD hO2.out (by have := hNl.out; omega)
        clear hzz
        have hcap : k ≤ cv ∧ cv ≤ maxLen := by
          rcases hO2.out.1.2 with ⟨h0, _⟩ | ⟨g', cap, cur, e, _, _, h1, h2, _⟩
          · cases h0
          · injection e with _ _ e3; have := hNl.out; omega
        obtain ⟨hc1, hc2⟩ := hcap
        unfold maxLen at hc2
        have hjc : (j : Int) ≤ (cv : Int) := by omega
        have hgw : g < w2.heap.size := (hO2.out.1.lt g rfl).2
        have hO1 := Lib.hid (hOwn.out w1.heap.size w2.heap.size (some ⟨g, 0, none⟩) j cv (ns.take j) w2 (by rw [List.length_take, hNl.out]; omega) (by rw [List.length_take]; omega) (IS.takeD (OW.rs hO2.out) j) (Nat.le_refl _))
        have hTl : Hid ((ns.take j).length = j) := by unfold Hid; rw [List.length_take, hNl.out]; omega
        have hnews : Hid (∀ W : World, Below w2.heap.size w2 W → ∀ q u, ((ns.drop j).map (Value.int .i64))[q]? = some u → W.cell? ((⟨g, j, none⟩ : Addr).add q) = some u) := fun W hW => OW.dropNews (hO2.out.below hW (Nat.le_refl _)) j
        have hdl : Hid (((ns.drop j).map (Value.int .i64)).length = (k - j) * 1) := by unfold Hid; rw [List.length_map, List.length_drop, hNl.out, Nat.mul_one]
        have hcase : j < k ∨ (j = k ∧ j < cv) ∨ (j = k ∧ j = cv) := by omega
        rcases hcase with hjk | ⟨hjk, hjc2⟩ | ⟨hjk, hjc2⟩
        · have hjk' : (j : Int) < (k : Int) := by omega
          have hjc' : (j : Int) < (cv : Int) := by omega
          go_wp2_with (fail)
          refine hO1.out.mono ?_
          rintro e w3 ⟨A2, c2, rfl, how2, hb2⟩
          have hown9 := how2.1
          rw [hTl.out] at hown9 ⊢
          have hown0 := Lib.hid hown9
          clear hown9
          have hB2 := Lib.hid hb2
          have hb2s := hb2.size
          clear how2 hb2
          go_wp2_with (first
            | (at_builtin; refine wpList_append_own _ rfl (.tmp 26) (.tmp 28) 27 rfl w2.heap.size 3 i0 (.int .i64 0) 1 8 Try.underlying27 hI0.out hI1.out hI2.out hI3.out rfl (by decide) _ j _ rfl (hown0.out.alloc _) ⟨w3.heap.size, 0, none⟩ 1 1 [.int .i64 k] rfl rfl (new1 rfl) (one1 _) (by unfold maxLen; omega) (by omega) (by simp; omega) ?_; intro v4 w4 hown4 hgr4 _; have hb4 := Lib.hid ((hB2.out.alloc hb2s _).grown hgr4 (by simp; omega) (fun j hj => (hown0.out.lt j hj).1)); have hb4s := hb4.out.size)
            | (at_builtin; refine wpList_append_src rfl (.tmp 30) (.tmp 33) 27 rfl w2.heap.size 3 i0 (.int .i64 0) 1 8 Try.underlying27 hI0.out hI1.out hI2.out hI3.out rfl (by decide) v4 (j + 1) _ rfl hown4 _ (k - j) _ ((ns.drop j).map (Value.int .i64)) rfl hdl.out (fun _ => ⟨_, rfl, hnews.out w4 hb4.out⟩) (oneI _) (by unfold maxLen; omega) (by omega) (by omega) ?_; intro v5 w5 hown5 hgr5 _; have hb5 := Lib.hid (hb4.out.grown hgr5 hb4s (fun j hj => (hown4.lt j hj).1))))
          have hrow : Hid (OW w5 w2.heap.size w5.heap.size v5 (ns.take j ++ (k : Int) :: ns.drop j)) := OW.ofRow (n := j + 1 + (k - j)) (by rw [List.map_append, List.map_cons]; simpa using hown5) (by rw [List.length_append, List.length_cons, hTl.out, List.length_drop, hNl.out]; omega)
          have hrow2 := Lib.hid (hrow.out.lower hws2)
          have hD5 := Lib.hid (hD2.out.belowD hb5.out)
          have hR5 := Lib.hid (hR2.out.belowD hb5.out hws2)
          have hs5 := Nat.le_trans hws2 hb5.out.size
          have hL5 : Hid ((ns.take j ++ (k : Int) :: ns.drop j).length = k + 1) := by
            unfold Hid; rw [List.length_append, List.length_cons, hTl.out, List.length_drop, hNl.out]; omega
          clear hown5 hgr5 hown4 hgr4
          go_wp2
          go_roundw
          case rel => exact ⟨k + 1, _, by omega, hL5.out, by go_num, hrow2.out, hD5.out.step (hD5.out.cur.more (by omega)) (Chg.refl _ _ _), hs5, hR5.out, fun h => by omega⟩
          case measure => simp [intOf]; omega
        · have hjk' : ¬ (j : Int) < (k : Int) := by omega
          have hjk2 : (k : Int) ≤ (j : Int) := by omega
          have hjc' : (j : Int) < (cv : Int) := by omega
          have hjk9 := Lib.hid hjk
          clear hjk
          go_wp2_with (fail)
          refine hO1.out.mono ?_
          rintro e w3 ⟨A2, c2, rfl, how2, hb2⟩
          have hown9 := how2.1
          rw [hTl.out] at hown9 ⊢
          have hown0 := Lib.hid hown9
          clear hown9
          have hB2 := Lib.hid hb2
          have hb2s := hb2.size
          clear how2 hb2
          go_wp2_with (first
            | (at_builtin; refine wpList_append_own _ rfl (.tmp 26) (.tmp 28) 27 rfl w2.heap.size 3 i0 (.int .i64 0) 1 8 Try.underlying27 hI0.out hI1.out hI2.out hI3.out rfl (by decide) _ j _ rfl (hown0.out.alloc _) ⟨w3.heap.size, 0, none⟩ 1 1 [.int .i64 k] rfl rfl (new1 rfl) (one1 _) (by unfold maxLen; omega) (by omega) (by simp; omega) ?_; intro v4 w4 hown4 hgr4 _; have hb4 := Lib.hid ((hB2.out.alloc hb2s _).grown hgr4 (by simp; omega) (fun j hj => (hown0.out.lt j hj).1)); have hb4s := hb4.out.size)
            | (at_builtin; refine wpList_append_src rfl (.tmp 30) (.tmp 33) 27 rfl w2.heap.size 3 i0 (.int .i64 0) 1 8 Try.underlying27 hI0.out hI1.out hI2.out hI3.out rfl (by decide) v4 (j + 1) _ rfl hown4 _ (k - j) _ ((ns.drop j).map (Value.int .i64)) rfl hdl.out (fun _ => ⟨_, rfl, hnews.out w4 hb4.out⟩) (oneI _) (by unfold maxLen; omega) (by omega) (by omega) ?_; intro v5 w5 hown5 hgr5 _; have hb5 := Lib.hid (hb4.out.grown hgr5 hb4s (fun j hj => (hown4.lt j hj).1))))
          have hrow : Hid (OW w5 w2.heap.size w5.heap.size v5 (ns.take j ++ (k : Int) :: ns.drop j)) := OW.ofRow (n := j + 1 + (k - j)) (by rw [List.map_append, List.map_cons]; simpa using hown5) (by have := hjk9.out; rw [List.length_append, List.length_cons, hTl.out, List.length_drop, hNl.out]; omega)
          have hrow2 := Lib.hid (hrow.out.lower hws2)
          have hD5 := Lib.hid (hD2.out.belowD hb5.out)
          have hR5 := Lib.hid (hR2.out.belowD hb5.out hws2)
          have hs5 := Nat.le_trans hws2 hb5.out.size
          have hL5 : Hid ((ns.take j ++ (k : Int) :: ns.drop j).length = k + 1) := by
            unfold Hid; rw [List.length_append, List.length_cons, hTl.out, List.length_drop, hNl.out]; omega
          clear hown5 hgr5 hown4 hgr4
          go_wp2
          go_roundw
          case rel => exact ⟨k + 1, _, by omega, hL5.out, by go_num, hrow2.out, hD5.out.step (hD5.out.cur.more (by omega)) (Chg.refl _ _ _), hs5, hR5.out, fun h => by omega⟩
          case measure => simp [intOf]; omega
        · have hjk9 := Lib.hid hjk
          clear hjk
          subst hjc2
          have hjk' : ¬ (j : Int) < (k : Int) := by have := hjk9.out; omega
          have hjk2 : (k : Int) ≤ (j : Int) := by have := hjk9.out; omega
          go_wp2_with (fail)
          refine hO1.out.mono ?_
          rintro e w3 ⟨A2, c2, rfl, how2, hb2⟩
          have hown9 := how2.1
          rw [hTl.out] at hown9 ⊢
          have hown0 := Lib.hid hown9
          clear hown9
          have hB2 := Lib.hid hb2
          have hb2s := hb2.size
          clear how2 hb2
          go_wp2_with (first
            | (at_builtin; refine wpList_append_own _ rfl (.tmp 26) (.tmp 28) 27 rfl w2.heap.size 3 i0 (.int .i64 0) 1 8 Try.underlying27 hI0.out hI1.out hI2.out hI3.out rfl (by decide) _ j _ rfl (hown0.out.alloc _) ⟨w3.heap.size, 0, none⟩ 1 1 [.int .i64 k] rfl rfl (new1 rfl) (one1 _) (by unfold maxLen; omega) (by omega) (by simp; omega) ?_; intro v4 w4 hown4 hgr4 _; have hb4 := Lib.hid ((hB2.out.alloc hb2s _).grown hgr4 (by simp; omega) (fun j hj => (hown0.out.lt j hj).1)); have hb4s := hb4.out.size)
            | (at_builtin; refine wpList_append_src rfl (.tmp 30) (.tmp 33) 27 rfl w2.heap.size 3 i0 (.int .i64 0) 1 8 Try.underlying27 hI0.out hI1.out hI2.out hI3.out rfl (by decide) v4 (j + 1) _ rfl hown4 _ _ _ ((ns.drop j).map (Value.int .i64)) rfl (by first | exact hdl.out | (have h1 := hdl.out; have h2 := hjk9.out; omega)) (fun h => absurd h (by have := hjk9.out; omega)) (oneI _) (by unfold maxLen; omega) (by omega) (by omega) ?_; intro v5 w5 hown5 hgr5 _; have hb5 := Lib.hid (hb4.out.grown hgr5 hb4s (fun j hj => (hown4.lt j hj).1))))
          have hrow : Hid (OW w5 w2.heap.size w5.heap.size v5 (ns.take j ++ (k : Int) :: ns.drop j)) := OW.ofRow (n := j + 1) (by rw [List.map_append, List.map_cons]; simpa using hown5) (by have := hjk9.out; rw [List.length_append, List.length_cons, hTl.out, List.length_drop, hNl.out]; omega)
          have hrow2 := Lib.hid (hrow.out.lower hws2)
          have hD5 := Lib.hid (hD2.out.belowD hb5.out)
          have hR5 := Lib.hid (hR2.out.belowD hb5.out hws2)
          have hs5 := Nat.le_trans hws2 hb5.out.size
          have hL5 : Hid ((ns.take j ++ (k : Int) :: ns.drop j).length = k + 1) := by
            unfold Hid; rw [List.length_append, List.length_cons, hTl.out, List.length_drop, hNl.out]; omega
          clear hown5 hgr5 hown4 hgr4
          go_wp2
          go_roundw
          case rel => exact ⟨k + 1, _, by omega, hL5.out, by go_num, hrow2.out, hD5.out.step (hD5.out.cur.more (by omega)) (Chg.refl _ _ _), hs5, hR5.out, fun h => by omega⟩
          case measure => simp [intOf]; omega
    · obtain rfl : k = 6 := by omega
      clear hz
      obtain ⟨V, cv, rfl, _⟩ := hO.out.form
      rw [hNl.out] at hO ⊢
      obtain ⟨g, rfl, hgl, hzz⟩ := OW.someD hO.out (by have := hNl.out; omega)
      clear hzz
      have hcap : 6 ≤ cv := by
        rcases hO.out.1.2 with ⟨h0, _⟩ | ⟨g', cap, cur, e, _, _, h1, h2, _⟩
        · cases h0
        · injection e with _ _ e3; have := hNl.out; omega
      have H := Lib.hid (hOne.out 1212 10 wr (by omega) (by omega) hD.out.cur)
      go_wp2_with (fail)
      refine H.out.mono ?_
      rintro e w2 ⟨b, rfl, hcu, hch⟩
      have hO2 := Lib.hid (show OW w2 w1.heap.size w2.heap.size (.slice (some ⟨g, 0, none⟩) 6 cv) ns from (hO.out.chgD hch (.inr hLw.out)).more hch.size)
      have hR2 := Lib.hid (show RS In.enc 5 w2 (w.heap.size + 1) w1.heap.size A0 xs0 from hR.out.chg hch hws (.inr (Nat.le_refl _)))
      have hD2 := Lib.hid (hD.out.step hcu hch)
      have hws2 : w1.heap.size ≤ w2.heap.size := Nat.le_trans hws hch.size
      clear hcu hch H hO hR hD hws
      cases b
      · have hIs := Lib.hid (OW.rs hO2.out)
        go_wp2
        go_ret2
        exact ⟨_, _, xs0, ns, rfl, ⟨A0, c0, rfl, hn0, hcap0.out, hsz0.out, hR2.out.more (Nat.le_succ _) hws2⟩, ⟨_, cv, by rw [hNl.out]; rfl, hNl.out, by rw [hNl.out]; exact hcap, hIs.out.more (by have := hLw.out; omega) (Nat.le_refl _)⟩, hD2.out.be⟩
      · have H := Lib.hid (hPk.out 1214 8 w2 (by omega) (by omega) hD2.out.cur)
        go_wp2_with (fail)
        refine H.out.mono ?_
        rintro e w3 ⟨y, rfl, hy, hcu, hch⟩
        have hO3 := (show OW w3 w1.heap.size w3.heap.size (.slice (some ⟨g, 0, none⟩) 6 cv) ns from (hO2.out.chgD hch (.inr hLw.out)).more hch.size)
        have hR3 := (show RS In.enc 5 w3 (w.heap.size + 1) w1.heap.size A0 xs0 from hR2.out.chg hch hws2 (.inr (Nat.le_refl _)))
        have hD3 := (hD2.out.step hcu hch)
        have hws3 : w1.heap.size ≤ w3.heap.size := Nat.le_trans hws2 hch.size
        have hgw : g < w3.heap.size := (hO3.1.lt g rfl).2
        obtain ⟨oz, fz⟩ := hO3.atD 0 (by have := hNl.out; omega)
        have hgD := Lib.hid (hD3.far (p := ⟨g, 0, none⟩) (by show w.heap.size < g; have := hLw.out; omega) (.int .i64 (y - 1)))
        have hgR := Lib.hid (hR3.chg (Chg.setCell (lo := w1.heap.size) (hi := w3.heap.size) (Chg.refl _ _ w3) (p := ⟨g, 0, none⟩) ⟨hgl, hgw⟩ (.int .i64 (y - 1))) hws3 (.inl (Nat.le_refl _)))
        have hP := hO3.putD 0 (y - 1)
        have hIs := Lib.hid (OW.rs (show OW (w3.setCell ⟨g, 0, none⟩ (.int .i64 (y - 1))) w1.heap.size (w3.setCell ⟨g, 0, none⟩ (.int .i64 (y - 1))).heap.size (.slice (some ⟨g, 0, none⟩) 6 cv) (ns.set 0 (y - 1)) from by rw [World.size_setCell]; exact hP))
        have hSl : Hid ((ns.set 0 (y - 1)).length = 6) := by unfold Hid; rw [List.length_set]; exact hNl.out
        have hy7 : 0 ≤ y ∧ y ≤ 7 := by omega
        clear hP hO3 hR3 hD3 hcu hch H hO2 hR2 hD2 hy
        go_wp2
        go_ret2
        exact ⟨_, _, xs0, ns.set 0 (y - 1), rfl, ⟨A0, c0, rfl, hn0, hcap0.out, hsz0.out, hgR.out.more (Nat.le_succ _) (by rw [World.size_setCell]; exact hws3)⟩, ⟨_, cv, by rw [hSl.out]; rfl, hSl.out, by rw [hSl.out]; exact hcap, hIs.out.more (by have := hLw.out; omega) (Nat.le_refl _)⟩, hgD.out.be⟩
end Go.Proofs.Ytmhdijklindipaa
