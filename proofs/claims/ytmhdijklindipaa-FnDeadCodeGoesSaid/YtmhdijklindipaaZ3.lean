/- Texts of this proof, one behind the other: BY, LawTR, CO, CP, CQ, CR. -/
import Derived.Test.YtmhdijklindipaaZ4
import Derived.Test.YtmhdijklindipaaLawC
import Derived.WalkKit
import Derived.WalkSpells
import Derived.WalkLawsBesides
import Derived.Lib.Hide
import Derived.Test.YtmhdijklindipaaZ6
import Derived.Test.YtmhdijklindipaaKMInstr
import Derived.Test.YtmhdijklindipaaKInstr
import Derived.Test.YtmhdijklindipaaLI
import Derived.Test.YtmhdijklindipaaZ13
import Derived.Test.YtmhdijklindipaaCF
import Derived.Laws.CopyOwn
import Derived.Deep.RegionHeld3
/- LiveBefore, MostAlive: both sides. -/
namespace Go.Proofs.Ytmhdijklindipaa
open Go.RowKit
set_option linter.unusedVariables false
set_option maxRecDepth 100000

theorem OX.at {w : World} {lo hi n c : Nat} {A : Option Addr} {xss : List (List Int)} (h : OX w lo hi (.slice A n c) xss) {i : Nat} (hi' : i < xss.length) :
    ∃ b o Ai ci, A = some ⟨b, o, none⟩ ∧ w.cell? ⟨b, o + i, none⟩ = some (.slice Ai (xss[i]).length ci) ∧ OW w lo hi (.slice Ai (xss[i]).length ci) xss[i] := by
  obtain ⟨vs, hO, hR⟩ := h.parts
  obtain ⟨b, o, e, _, hc⟩ := okv_rs hO (by rw [hR.len]; omega)
  have hiv : i < vs.length := by rw [hR.len]; exact hi'
  obtain ⟨⟨Ai, ci, e2⟩, hOW⟩ := hR.row i hiv hi'
  have h1 := hc i hiv 0 vs[i] rfl
  rw [e2] at h1 hOW
  exact ⟨b, o, Ai, ci, e, by simpa using h1, hOW⟩
def lbR (cs : List In) (out : List Int) : List Int := if ddOk cs out = true then mkT (lvS (setsTo out out.length) cs) else []
theorem lbR_len (cs : List In) (out : List Int) : (lbR cs out).length ≤ 1048576 := by
  unfold lbR
  split
  · have := mkT_len6 (lvS (setsTo out out.length) cs); omega
  · simp
theorem lbR_no {cs : List In} {out : List Int} (h : ddOk cs out = false) : lbR cs out = [] := by unfold lbR; rw [h]; rfl
theorem ls_first {cs : List In} {out : List Int} (h : ddOk cs out = true) : ∃ h0 : 0 < (lsR cs out).length, (lsR cs out)[0] = lbR cs out := by
  have e : lsR cs out = lvX (setsTo out out.length) cs := by unfold lsR; rw [if_pos h]
  have e2 : lbR cs out = mkT (lvS (setsTo out out.length) cs) := by unfold lbR; rw [if_pos h]
  obtain ⟨t, ht⟩ := lvX_head (setsTo out out.length) cs
  rw [e, e2]
  refine ⟨by rw [lvX_len]; omega, ?_⟩
  simp only [ht, List.getElem_cons_zero]
def maxTo (xss : List (List Int)) (k : Nat) : Int := (xss.take k).foldl (fun m xs => max m (xs.length : Int)) 0
theorem maxTo_succ {xss : List (List Int)} {k : Nat} (h : k < xss.length) : maxTo xss (k + 1) = max (maxTo xss k) (xss[k].length : Int) := by
  unfold maxTo; rw [List.take_succ_eq_append_getElem h, List.foldl_append]; rfl
def maR (cs : List In) (out : List Int) : Int := maxTo (lsR cs out) (lsR cs out).length
theorem maR_no {cs : List In} {out : List Int} (h : ddOk cs out = false) : maR cs out = 0 := by
  have e : lsR cs out = [] := by unfold lsR; rw [h]; rfl
  unfold maR; rw [e]; rfl

set_option maxHeartbeats 4000000 in
theorem iLiveBefore_k (L B : Nat) (A : Option Addr) (c : Nat) (cs : List In) (L' B' : Nat) (A' : Option Addr) (c' : Nat) (out : List Int) (w : World) (hl : cs.length ≤ 1048576) (hes : RS In.enc 5 w L B A cs) (hB : B ≤ w.heap.size) (hn : out.length ≤ 1048576) (hns : IS w L' B' A' out) (hB' : B' ≤ w.heap.size) :
    Calls Try.prog 65 #[.slice A cs.length c, .slice A' out.length c'] w (ResLiveBefore (lbR cs out) (ddOk cs out) w) := by
  have H := Lib.hid (iLiveSets_k L B A c cs L' B' A' c' out w hl hes hB hn hns hB')
  clear hes hns
  cases hd : ddOk cs out
  · have hR := Lib.hid (lbR_no hd)
    rw [hd] at H
    clear hd
    go_enter Try.func65, Try.ntmps65
    go_wp2_with (fail)
    refine H.out.mono ?_
    rintro e w1 ⟨A1, c1, rfl, ho1, hb1⟩
    have hbh := Lib.hid hb1
    clear hb1 ho1
    go_wp2
    go_ret2
    rw [hR.out]
    exact ⟨none, 0, rfl, OW.nil _ _ _, hbh.out⟩
  · obtain ⟨h0, hf⟩ := ls_first hd
    have hF := Lib.hid hf
    rw [hd] at H
    clear hd hf
    go_enter Try.func65, Try.ntmps65
    go_wp2_with (fail)
    refine H.out.mono ?_
    rintro e w1 ⟨A1, c1, rfl, ho1, hb1⟩
    obtain ⟨b, o, Ai, ci, rfl, hc, hOW⟩ := ho1.at h0
    have hbh := Lib.hid hb1
    have hOWh := Lib.hid hOW
    rw [hF.out] at hc hOWh
    have hc0 : w1.cell? ⟨b, o, none⟩ = some (.slice Ai (lbR cs out).length ci) := hc
    have h0i : (0 : Int) < ((lsR cs out).length : Int) := by omega
    clear hb1 ho1 hOW hc hF
    generalize lbR cs out = R at *
    generalize lsR cs out = X at *
    go_wp2
    go_ret2
    exact ⟨Ai, ci, rfl, hOWh.out, hbh.out⟩
set_option maxHeartbeats 4000000 in
theorem iMostAlive_k (L B : Nat) (A : Option Addr) (c : Nat) (cs : List In) (L' B' : Nat) (A' : Option Addr) (c' : Nat) (out : List Int) (w : World) (hl : cs.length ≤ 1048576) (hes : RS In.enc 5 w L B A cs) (hB : B ≤ w.heap.size) (hn : out.length ≤ 1048576) (hns : IS w L' B' A' out) (hB' : B' ≤ w.heap.size) :
    Calls Try.prog 66 #[.slice A cs.length c, .slice A' out.length c'] w (ResMostAlive (maR cs out) (ddOk cs out) w) := by
  have H := Lib.hid (iLiveSets_k L B A c cs L' B' A' c' out w hl hes hB hn hns hB')
  have hS := Lib.hid (lsR_small cs out).1
  have hR : Hid (maR cs out = maxTo (lsR cs out) (lsR cs out).length) := rfl
  clear hes hns
  generalize maR cs out = R at *
  generalize ddOk cs out = q at *
  generalize lsR cs out = X at *
  have hsu := Lib.hid fun (k : Nat) (h : k < X.length) => maxTo_succ h
  have h00 : Hid (maxTo X 0 = 0) := rfl
  generalize maxTo X = F at *
  go_enter Try.func66, Try.ntmps66
  go_wp2_with (fail)
  refine H.out.mono ?_
  rintro e w1 ⟨A1, c1, rfl, ho1, hb1⟩
  have hbh := Lib.hid hb1
  have hO := Lib.hid ho1
  have hl := hS.out
  clear hb1 ho1
  go_wp2
  go_loop [8, 19] (fun m i => ∃ k : Nat, k ≤ X.length ∧ i = .int .i64 k ∧ m = .int .i64 (F k)) (fun _ i => X.length - (intOf i).toNat)
  case atStart => exact ⟨0, Nat.zero_le _, rfl, by rw [h00.out]⟩
  case round =>
    obtain ⟨k, hk, rfl, rfl⟩ := hrel
    by_cases hlt : k < X.length
    · obtain ⟨b, o, Ai, ci, rfl, hc, hOW⟩ := hO.out.at hlt
      have hs := Lib.hid (hsu.out k hlt)
      have hki : (k : Int) < (X.length : Int) := by omega
      clear hOW
      generalize hz : (X[k]).length = z at *
      clear hz
      generalize hnx : F (k + 1) = nx at *
      have hnx2 := Lib.hid hnx
      clear hnx
      generalize F k = fk at *
      go_wp2
      go_round
      case rel => exact ⟨k + 1, by omega, by go_num, by rw [hnx2.out, hs.out]⟩
      case measure => simp [intOf]; omega
    · obtain rfl : k = X.length := by omega
      go_wp2
      go_ret2
      exact ⟨by rw [hR.out]; rfl, hbh.out⟩
set_option maxHeartbeats 4000000 in
theorem sMostAlive_k (L B : Nat) (A : Option Addr) (c : Nat) (cs : List In) (L' B' : Nat) (A' : Option Addr) (c' : Nat) (out : List Int) (w : World) (hl : cs.length ≤ 1048576) (hes : RS In.enc 5 w L B A cs) (hB : B ≤ w.heap.size) (hn : out.length ≤ 1048576) (hns : IS w L' B' A' out) (hB' : B' ≤ w.heap.size) :
    Calls Try.prog 67 #[.slice A cs.length c, .slice A' out.length c'] w (ResMostAlive (maR cs out) (ddOk cs out) w) := by
  have H := Lib.hid (cdCode_any L B A c cs w hl hes hB)
  cases hk : okCode cs
  · have hR := Lib.hid (ddOk_no1 out hk).1
    have hN := Lib.hid (maR_no hR.out)
    rw [hk] at H
    clear hk hes hns
    go_enter Try.func67, Try.ntmps67
    go_wp2_with (fail)
    refine H.out.mono ?_
    rintro e w1 ⟨rfl, hb1⟩
    have hbh := Lib.hid hb1
    clear hb1
    go_wp2
    go_ret2
    rw [hR.out, hN.out]
    exact ⟨rfl, hbh.out⟩
  have H2 := Lib.hid fun (W : World) (hW : Below w.heap.size w W) => cdWanted_any L' B' A' c' out W hn (hns.below hW hB')
  cases hr : riseB out
  · have hR := Lib.hid (ddOk_no2 cs hr).1
    have hN := Lib.hid (maR_no hR.out)
    rw [hk] at H
    rw [hr] at H2
    clear hk hr hes hns
    go_enter Try.func67, Try.ntmps67
    go_wp2_with (fail)
    refine H.out.mono ?_
    rintro e w1 ⟨rfl, hb1⟩
    have hbh := Lib.hid hb1
    clear hb1
    go_wp2_with (fail)
    refine (H2.out _ hbh.out).mono ?_
    rintro e w2 ⟨rfl, rfl⟩
    go_wp2
    go_ret2
    rw [hR.out, hN.out]
    exact ⟨rfl, hbh.out⟩
  have hR := Lib.hid (ddOk_yes hk hr)
  have hX := Lib.hid fun (W : World) (hW : Below w.heap.size w W) => (show Calls Try.prog 182 #[.slice A cs.length c, .slice A' out.length c'] W (SetsGot W (lsR cs out)) from by
    have h := cdSets_any L B L' B' A A' c c' cs (setsTo out out.length) W (okCode_len hk) (okCode_all hk) (setsTo_len _ _) (hes.below hW hB) (Nat.le_trans hB hW.size) (by rw [(rise_bits hr).2]; exact hns.below hW hB') (Nat.le_trans hB' hW.size)
    rw [(rise_bits hr).2] at h
    rw [hR.out.2]
    exact h)
  have hdd := Lib.hid hR.out.1
  rw [hk] at H
  rw [hr] at H2
  clear hk hr hes hns hR
  have hRm : Hid (maR cs out = maxTo (lsR cs out) (lsR cs out).length) := rfl
  have hS := Lib.hid (lsR_small cs out).1
  rw [hdd.out]
  clear hdd
  generalize maR cs out = R at *
  generalize lsR cs out = X at *
  have hsu := Lib.hid fun (k : Nat) (h : k < X.length) => maxTo_succ h
  have h00 : Hid (maxTo X 0 = 0) := rfl
  have hMx := Lib.hid l1Most_any
  generalize maxTo X = F at *
  go_enter Try.func67, Try.ntmps67
  go_wp2_with (fail)
  refine H.out.mono ?_
  rintro e w1 ⟨rfl, hb1⟩
  have hbh := Lib.hid hb1
  clear hb1
  go_wp2_with (fail)
  refine (H2.out _ hbh.out).mono ?_
  rintro e w2 ⟨rfl, rfl⟩
  go_wp2_with (fail)
  refine (hX.out _ hbh.out).mono ?_
  rintro e w3 ⟨A3, c3, rfl, ho3, hb3⟩
  have hO := Lib.hid ho3
  have hB3 := Lib.hid (hbh.out.trans (hb3.mono hbh.out.size))
  have hl := hS.out
  clear ho3 hb3
  go_wp2
  go_loopw [6, 21] (fun m i wr => ∃ k : Nat, k ≤ X.length ∧ i = .int .i64 k ∧ m = .int .i64 (F k) ∧ wr = w3) (fun _ i _ => X.length - (intOf i).toNat)
  case atStart => exact ⟨0, Nat.zero_le _, rfl, by rw [h00.out], by first | rfl | trivial⟩
  case round =>
    obtain ⟨k, hk, rfl, rfl, rfl⟩ := hrel
    by_cases hlt : k < X.length
    · obtain ⟨b, o, Ai, ci, rfl, hc, hOW⟩ := hO.out.at hlt
      have hs := Lib.hid (hsu.out k hlt)
      have hki : (k : Int) < (X.length : Int) := by omega
      clear hOW
      generalize hz : (X[k]).length = z at *
      clear hz
      generalize hnx : F (k + 1) = nx at *
      have hnx2 := Lib.hid hnx
      clear hnx
      generalize F k = fk at *
      go_wp2_with (fail)
      refine (hMx.out _ _ _).mono ?_
      rintro e w4 ⟨rfl, rfl⟩
      go_wp2
      go_roundw
      case rel => exact ⟨k + 1, by omega, by go_num, by rw [hnx2.out, hs.out], by first | rfl | trivial⟩
      case measure => simp [intOf]; omega
    · obtain rfl : k = X.length := by omega
      go_wp2
      go_ret2
      exact ⟨by rw [hRm.out]; rfl, hB3.out⟩
end Go.Proofs.Ytmhdijklindipaa

namespace Go.Proofs.Ytmhdijklindipaa
open Go.RowKit
set_option linter.unusedVariables false

def ResTraceOf (R0 : List (List Int)) (R1 : Bool) (w : World) (e : Ending) (w' : World) : Prop := ∃ (A0 : Option Addr) (c0 : Nat), e = .returned (.tuple #[.slice A0 R0.length c0, .bool R1]) ∧ OX w' w.heap.size w'.heap.size (.slice A0 R0.length c0) R0 ∧ Below w.heap.size w w'
end Go.Proofs.Ytmhdijklindipaa

namespace Go.Proofs.Ytmhdijklindipaa
open Go.RowKit
set_option linter.unusedVariables false
set_option maxRecDepth 100000

set_option maxHeartbeats 4000000 in
theorem cdRun_any (L B : Nat) (A : Option Addr) (c : Nat) (es : List In) (b o c' : Nat) (rs : List Int) (L' B' : Nat) (w : World) (hok : okCode es = true) (hes : RS In.enc 5 w L B A es) (hB : B ≤ w.heap.size) (h6 : words6 rs) (hI : IS w L' B' (some ⟨b, o, none⟩) rs) (hB' : B' ≤ w.heap.size) :
    Calls Try.prog 148 #[.slice A es.length c, .slice (some ⟨b, o, none⟩) 6 c'] w (Own6 w (runL es rs)) := by
  have hl := okCode_len hok
  have hall := Lib.hid (okCode_all hok)
  have hE := Lib.hid hes
  have hBB := Lib.hid hB
  have hH6 := Lib.hid h6
  have hL := Lib.hid ((l1Own_any L' B' (some ⟨b, o, none⟩) c' rs w (by rw [h6.1]; omega) hI hB').mono fun _ _ => own6_of h6.1)
  rw [show rs.length = 6 from h6.1] at hL
  clear hes hB hok h6 hI
  go_enter Try.func148, Try.ntmps148
  go_wp2_with (fail)
  refine hL.out.mono ?_
  rintro e w1 ⟨g1, c1, rfl, hg1, ho1, hb1⟩
  have hO1 := Lib.hid ho1
  have hbel1 := Lib.hid hb1
  clear ho1 hb1
  go_wp2
  go_loopw [5, 12] (fun q i wr => ∃ k : Nat, k ≤ es.length ∧ i = .int .i64 k ∧ (∃ g c1, q = .slice (some ⟨g, 0, none⟩) 6 c1 ∧ w.heap.size ≤ g ∧ OW wr g (g + 1) (.slice (some ⟨g, 0, none⟩) 6 c1) (runL (es.take k) rs)) ∧ Below w.heap.size w wr) (fun _ i _ => es.length - (intOf i).toNat)
  case atStart => exact ⟨0, Nat.zero_le _, rfl, ⟨g1, c1, rfl, hg1, hO1.out⟩, hbel1.out⟩
  case round =>
    obtain ⟨k, hk, rfl, ⟨g, c2, rfl, hg, how⟩, hbel⟩ := hrel
    have hO := Lib.hid how
    have hglt : g < wr.heap.size := (how.1.lt g rfl).2
    clear how
    by_cases hlt : k < es.length
    · obtain ⟨b, o, rfl, ⟨_, hbB⟩, hc⟩ := In.cells (hE.out.below hbel hBB.out) (by omega)
      obtain ⟨d1, d2, d3, d4, d5⟩ := hc k hlt
      clear hc
      have hx := Lib.hid (hall.out _ (List.getElem_mem hlt))
      have hS := Lib.hid (runL_snoc (rs := rs) hlt)
      have hW := Lib.hid (runL_words_take hall.out hH6.out k)
      generalize es[k] = nd at *
      obtain ⟨op, d, a, bb, m⟩ := nd
      have hbs := hbel.size
      have hbel2 := fun o => Lib.hid (hbel.alloc hbel.size o)
      have hO2 := fun o => Lib.hid (hO.out.below ((Below.refl wr.heap.size wr).alloc (Nat.le_refl _) o) hglt)
      clear hbel
      go_wp2_with (fail)
      refine (cdStep_any ⟨op, d, a, bb, m⟩ g 0 c2 _ g (g + 1) _ hx.out hW.out (hO2 _).out.rs (by simp; omega)).mono ?_
      rintro e w3 ⟨g3, c3, rfl, hg3, ho3, hb3⟩
      have hO3 := Lib.hid ho3
      have hbel3 := Lib.hid ((hbel2 _).out.trans (hb3.mono (by simp; omega)))
      simp at hg3
      clear ho3 hb3 d1 d2 d3 d4 d5
      go_wp2
      go_roundw
      case rel => exact ⟨k + 1, by omega, by go_num, ⟨g3, c3, rfl, by omega, by rw [hS.out]; exact hO3.out⟩, hbel3.out⟩
      case measure => simp [intOf]; omega
    · obtain rfl : k = es.length := by omega
      go_wp2
      go_ret
      exact ⟨g, c2, rfl, hg, by have := hO.out; rwa [List.take_length] at this, hbel⟩

def stepR (x : In) (rs : List Int) : List Int := if (goodIn x && regsOk rs) = true then stepL x rs else []
def runR (es : List In) (rs : List Int) : List Int := if (okCode es && regsOk rs) = true then runL es rs else []
theorem regs_words {rs : List Int} (h : regsOk rs = true) : words6 rs := by
  simp only [regsOk, Bool.and_eq_true, beq_iff_eq] at h
  exact h
theorem stepR_len (x : In) (rs : List Int) : (stepR x rs).length ≤ 1048576 := by
  unfold stepR; split
  · rename_i h; simp only [Bool.and_eq_true] at h
    have := (stepL_words h.1 (regs_words h.2)).1; omega
  · simp
theorem runR_len (es : List In) (rs : List Int) : (runR es rs).length ≤ 1048576 := by
  unfold runR; split
  · rename_i h; simp only [Bool.and_eq_true] at h
    have := (runL_words (okCode_all h.1) (regs_words h.2)).1; omega
  · simp
/-- The two results of a call that may leave a list. -/
theorem res_no {F : List Int → Bool → World → Ending → World → Prop} {w w' : World} {R : List Int} (hF : ∀ R ok w e w', (∃ A c, e = .returned (.tuple #[.slice A R.length c, .bool ok]) ∧ OW w' w.heap.size w'.heap.size (.slice A R.length c) R ∧ Below w.heap.size w w') → F R ok w e w') (hR : R = []) (hb : Below w.heap.size w w') :
    F R false w (.returned (.tuple #[.slice none 0 0, .bool false])) w' := by
  subst hR; exact hF _ _ _ _ _ ⟨none, 0, rfl, OW.nil _ _ _, hb⟩
theorem own6_res {w w' : World} {g c : Nat} {R : List Int} (h6 : R.length = 6) (hg : w.heap.size ≤ g) (ho : OW w' g (g + 1) (.slice (some ⟨g, 0, none⟩) 6 c) R) (hb : Below w.heap.size w w') :
    ∃ A c1, Ending.returned (.tuple #[.slice (some ⟨g, 0, none⟩) 6 c, .bool true]) = .returned (.tuple #[.slice A R.length c1, .bool true]) ∧ OW w' w.heap.size w'.heap.size (.slice A R.length c1) R ∧ Below w.heap.size w w' :=
  ⟨_, c, by rw [h6], by rw [h6]; exact (ho.lower hg).more (ho.1.lt g rfl).2, hb⟩

set_option maxHeartbeats 1000000 in
theorem sStepInstr_any (x : In) (L B : Nat) (A : Option Addr) (c : Nat) (rs : List Int) (w : World) (hl : rs.length ≤ 1048576) (hI : IS w L B A rs) (hB : B ≤ w.heap.size) :
    Calls Try.prog 44 #[.agg #[.string x.op, .int .i64 x.d, .int .i64 x.a, .int .i64 x.b, .int .i64 x.m], .slice A rs.length c] w (ResStepInstr (stepR x rs) (goodIn x && regsOk rs) w) := by
  have hE := Lib.hid hI
  obtain ⟨op, d, a, b, m⟩ := x
  have hb0 := Lib.hid ((Below.refl w.heap.size w).alloc (Nat.le_refl _) (.cells #[.string op, .int .i64 d, .int .i64 a, .int .i64 b, .int .i64 m] 56))
  clear hI
  go_enter Try.func44, Try.ntmps44
  go_wp2_with (fail)
  refine (cdGood_any _ _ _ _ _ _).mono ?_
  rintro e w2 ⟨rfl, hb⟩
  obtain ⟨xa, xb, xc, xd, xe⟩ := In.old (x := ⟨op, d, a, b, m⟩) rfl hb
  have hbb := Lib.hid (hb0.out.trans (hb.mono (by simp)))
  have hE2 := Lib.hid (hE.out.below hbb.out hB)
  have hz := hbb.out.size
  clear hb
  cases hg : goodIn ⟨op, d, a, b, m⟩
  · have hR : Hid (stepR ⟨op, d, a, b, m⟩ rs = []) := by simp [Hid, stepR, hg]
    have hK : Hid ((goodIn ⟨op, d, a, b, m⟩ && regsOk rs) = false) := by simp [Hid, hg]
    go_wp2
    go_ret2
    rw [hR.out, hK.out]; exact ⟨none, 0, rfl, OW.nil _ _ _, hbb.out⟩
  · have hG := Lib.hid hg
    have hC := Lib.hid (cdRegs_any L B A c rs w2 hl hE2.out)
    cases hr : regsOk rs
    · have hR : Hid (stepR ⟨op, d, a, b, m⟩ rs = []) := by simp [Hid, stepR, hr]
      have hK : Hid ((goodIn ⟨op, d, a, b, m⟩ && regsOk rs) = false) := by simp [Hid, hr]
      rw [hr] at hC
      go_wp2_with (fail)
      refine hC.out.mono ?_
      rintro e w3 ⟨rfl, rfl⟩
      go_wp2
      go_ret2
      rw [hR.out, hK.out]; exact ⟨none, 0, rfl, OW.nil _ _ _, hbb.out⟩
    · have hR : Hid (stepR ⟨op, d, a, b, m⟩ rs = stepL ⟨op, d, a, b, m⟩ rs) := by simp [Hid, stepR, hr, hg]
      have hK : Hid ((goodIn ⟨op, d, a, b, m⟩ && regsOk rs) = true) := by simp [Hid, hr, hg]
      have h6 := Lib.hid (regs_words hr)
      have h6' := Lib.hid (stepL_words hg (regs_words hr)).1
      rw [hr] at hC
      rw [show rs.length = 6 from h6.out.1] at hC ⊢
      obtain ⟨b', o', rfl, _, _⟩ := hE2.out.six h6.out.1
      clear hr hg
      go_wp2_with (fail)
      refine hC.out.mono ?_
      rintro e w3 ⟨rfl, rfl⟩
      go_wp2_with (fail)
      refine (cdStep_any ⟨op, d, a, b, m⟩ b' o' c rs L B _ hG.out h6.out hE2.out (by omega)).mono ?_
      rintro e w4 ⟨g4, c4, rfl, hg4, ho4, hb4⟩
      have hO4 := Lib.hid ho4
      have hbel4 := Lib.hid (hbb.out.trans (hb4.mono hz))
      clear ho4 hb4
      go_wp2
      go_ret2
      rw [hR.out, hK.out]
      exact own6_res h6'.out (by omega) hO4.out hbel4.out
end Go.Proofs.Ytmhdijklindipaa

namespace Go.Proofs.Ytmhdijklindipaa
open Go.RowKit
set_option linter.unusedVariables false
set_option maxRecDepth 100000

/-- The machine as a value. -/
def macV (rs : List Int) : Value := .agg (intCells rs)
theorem six_list {rs : List Int} (h : rs.length = 6) : ∃ a b c d e f, rs = [a, b, c, d, e, f] := by
  match rs, h with
  | [a, b, c, d, e, f], _ => exact ⟨a, b, c, d, e, f, rfl⟩
theorem IB.six {w : World} {g : Nat} {t : TypeId} {rs : List Int} (h : IB w g t rs) (h6 : rs.length = 6) : Six w g 0 rs := fun i hi => by
  rw [Nat.zero_add, h.cell i (by omega), List.getD_eq_getElem?_getD, List.getElem?_eq_getElem (by omega)]; rfl

theorem six_cells {w : World} {g : Nat} {t : TypeId} {a b c d e f : Value} (h : w.heap[g]? = some (.cells #[a, b, c, d, e, f] t (0, 0))) :
    (w.cell? ⟨g, 0, none⟩ = some a ∧ w.cell? ⟨g, 1, none⟩ = some b ∧ w.cell? ⟨g, 2, none⟩ = some c ∧ w.cell? ⟨g, 3, none⟩ = some d ∧ w.cell? ⟨g, 4, none⟩ = some e ∧ w.cell? ⟨g, 5, none⟩ = some f) ∧
    (w.frozen? ⟨g, 0, none⟩ = false ∧ w.frozen? ⟨g, 1, none⟩ = false ∧ w.frozen? ⟨g, 2, none⟩ = false ∧ w.frozen? ⟨g, 3, none⟩ = false ∧ w.frozen? ⟨g, 4, none⟩ = false ∧ w.frozen? ⟨g, 5, none⟩ = false) := by
  have hc := fun i => cell_of_row w g i #[a, b, c, d, e, f] t (0, 0) h
  have hf : ∀ i, w.frozen? ⟨g, i, none⟩ = false := fun i => by simp [World.frozen?, h]
  exact ⟨⟨hc 0, hc 1, hc 2, hc 3, hc 4, hc 5⟩, hf 0, hf 1, hf 2, hf 3, hf 4, hf 5⟩
set_option maxHeartbeats 1000000 in
theorem machineOf_any (b o c : Nat) (r0 r1 r2 r3 r4 r5 : Int) (w : World) (L B : Nat) (hI : IS w L B (some ⟨b, o, none⟩) [r0, r1, r2, r3, r4, r5]) (hB : B ≤ w.heap.size) :
    Calls Try.prog 139 #[.slice (some ⟨b, o, none⟩) 6 c] w fun e w' => e = .returned (.agg #[.int .i64 r0, .int .i64 r1, .int .i64 r2, .int .i64 r3, .int .i64 r4, .int .i64 r5]) ∧ Below w.heap.size w w' := by
  obtain ⟨o0, ho0⟩ : ∃ o0 : Obj, o0 = .cells #[.int .i64 0, .int .i64 0, .int .i64 0, .int .i64 0, .int .i64 0, .int .i64 0] 115 := ⟨_, rfl⟩
  have hnew : Hid (((w.alloc o0).alloc o0).heap[w.heap.size + 1]? = some (.cells (([0, 0, 0, 0, 0, 0] : List Int).map (Value.int .i64)).toArray 115 (0, 0))) := by
    have := heap_alloc_new (w.alloc o0) o0
    rw [show (w.alloc o0).heap.size = w.heap.size + 1 by simp] at this
    rw [Hid, this, ho0]; rfl
  have hold : Hid (((w.alloc o0).alloc o0).heap[w.heap.size]? = some (.cells #[.int .i64 0, .int .i64 0, .int .i64 0, .int .i64 0, .int .i64 0, .int .i64 0] 115 (0, 0))) := by
    have := Below.heap_alloc (w.alloc o0) o0 w.heap.size (by simp)
    rw [Hid, this, heap_alloc_new, ho0]
  have hb0 := Lib.hid (((Below.refl w.heap.size w).alloc (Nat.le_refl _) o0).alloc (by simp) o0)
  have hE2 := Lib.hid ((hI.below hb0.out hB).news (by simp))
  subst ho0
  have hsz : (Try.prog.info? 3).map (·.size) = some 1 := by kernel_rfl
  have hSZ := Lib.hid hsz
  clear hI hsz
  go_enter Try.func139, Try.ntmps139
  go_wp2_with (with_reducible refine wpList_copy_splice rfl (.tmp 4) (.tmp 5) 27 27 rfl 3 Try.underlying27 hSZ.out (some ⟨w.heap.size + 1, 0, none⟩) (some ⟨b, o, none⟩) 6 6 6 c rfl rfl (w.heap.size + 1) 0 (([0, 0, 0, 0, 0, 0] : List Int).map (Value.int .i64)) 115 hnew.out (([r0, r1, r2, r3, r4, r5] : List Int).map (Value.int .i64)) rfl (fun _ => ⟨rfl, hE2.out⟩) (by simp) (oneI _) (w.heap.size + 1) _ (Below.refl _ _) (by omega) ?_; intro w1 hw1 hbel1; obtain ⟨⟨d0, d1, d2, d3, d4, d5⟩, _⟩ := six_cells (show w1.heap[w.heap.size + 1]? = some (.cells #[.int .i64 r0, .int .i64 r1, .int .i64 r2, .int .i64 r3, .int .i64 r4, .int .i64 r5] 115 (0, 0)) from (by have := hw1.out; simpa [Go.splice] using this)); obtain ⟨⟨e0, e1, e2, e3, e4, e5⟩, f0, f1, f2, f3, f4, f5⟩ := six_cells ((hbel1.block w.heap.size (by omega)).trans hold.out))
  have hz0 : CB 115 w1 w.heap.size [.int .i64 0, .int .i64 0, .int .i64 0, .int .i64 0, .int .i64 0, .int .i64 0] := (hbel1.block w.heap.size (by omega)).trans hold.out
  have hz1 := CB.sets [.int .i64 r0, .int .i64 r1, .int .i64 r2, .int .i64 r3, .int .i64 r4, .int .i64 r5] 0 hz0
  have hb2 := Lib.hid (below_setCells (B := w.heap.size) [.int .i64 r0, .int .i64 r1, .int .i64 r2, .int .i64 r3, .int .i64 r4, .int .i64 r5] w.heap.size 0 (hb0.out.trans (hbel1.mono (by omega))) (Nat.le_refl _))
  obtain ⟨⟨g0, g1, g2, g3, g4, g5⟩, _⟩ := six_cells (show (setCells w1 w.heap.size 0 [.int .i64 r0, .int .i64 r1, .int .i64 r2, .int .i64 r3, .int .i64 r4, .int .i64 r5]).heap[w.heap.size]? = some (.cells #[.int .i64 r0, .int .i64 r1, .int .i64 r2, .int .i64 r3, .int .i64 r4, .int .i64 r5] 115 (0, 0)) from hz1)
  simp only [setCells, Nat.zero_add, Nat.reduceAdd] at g0 g1 g2 g3 g4 g5
  exact bodyPost_ret (v := .agg #[.int .i64 r0, .int .i64 r1, .int .i64 r2, .int .i64 r3, .int .i64 r4, .int .i64 r5]) (by simp [results, Try.results139, go_sem, g0, g1, g2, g3, g4, g5]) rfl ⟨rfl, hb2.out⟩
end Go.Proofs.Ytmhdijklindipaa

namespace Go.Proofs.Ytmhdijklindipaa
open Go.RowKit
set_option linter.unusedVariables false
set_option maxRecDepth 100000

def StepM (w : World) (g : Nat) (rs : List Int) (e : Ending) (w' : World) : Prop :=
  e = .returned (.tuple #[]) ∧ IB w' g 115 rs ∧ Chg g (g + 1) w w'
set_option maxHeartbeats 4000000 in
theorem stepM_any (x : In) (g : Nat) (rs : List Int) (w : World) (hx : goodIn x = true) (h6 : words6 rs) (hI : IB w g 115 rs) :
    Calls Try.prog 146 #[.pointer (some ⟨g, 0, none⟩), .agg #[.string x.op, .int .i64 x.d, .int .i64 x.a, .int .i64 x.b, .int .i64 x.m]] w (StepM w g (stepL x rs)) := by
  have hG := Lib.hid hx
  have hW := Lib.hid h6
  obtain ⟨hd, _⟩ := good_parts hx
  obtain ⟨op, d, a, b', m⟩ := x
  obtain ⟨nd, rfl⟩ := Int.eq_ofNat_of_zero_le hd.1
  have hb0 := Lib.hid ((Below.refl w.heap.size w).alloc (Nat.le_refl _) (.cells #[.string op, .int .i64 nd, .int .i64 a, .int .i64 b', .int .i64 m] 56))
  have hS : Hid (stepL ⟨op, nd, a, b', m⟩ rs = rs.set nd (vOf op m (rs.getD a.toNat 0) (rs.getD b'.toNat 0))) := rfl
  obtain ⟨y, hy⟩ : ∃ y, vOf op m (rs.getD a.toNat 0) (rs.getD b'.toNat 0) = y := ⟨_, rfl⟩
  have hV := Lib.hid (fun w' (h1 : g < w'.heap.size) (h2 : Six w' g 0 rs) => (show Calls Try.prog 238 #[.pointer (some ⟨g, 0, none⟩), .agg #[.string op, .int .i64 nd, .int .i64 a, .int .i64 b', .int .i64 m]] w' (fun e w'' => e = .returned (.int .i64 y) ∧ Below w'.heap.size w' w'') from by have := valueOf_any ⟨op, nd, a, b', m⟩ g rs w' hG.out hW.out h1 h2; simp only at this; rw [hy] at this; exact this))
  rw [hy] at hS
  clear hy
  have hgl := hI.lt
  have hM := Lib.hid (hI.below hb0.out hgl)
  have hlen := Lib.hid h6.1
  have hd' : nd < 6 := by simp only at hd; omega
  clear hI hx h6 hd
  go_enter Try.func146, Try.ntmps146
  go_wp2_with (fail)
  obtain ⟨w1, hw1⟩ : ∃ w1 : World, w1 = w.alloc (.cells #[.string op, .int .i64 nd, .int .i64 a, .int .i64 b', .int .i64 m] 56) := ⟨_, rfl⟩
  rw [← hw1] at hM hb0 ⊢
  obtain ⟨xa, xb, xc, xd, xe⟩ := In.old (x := ⟨op, nd, a, b', m⟩) (w2 := w1) (t := 56) rfl (by rw [hw1]; exact Below.refl _ _)
  have hz : w.heap.size < w1.heap.size := by rw [hw1]; simp
  have hz' : w1.heap.size = w.heap.size + 1 := by rw [hw1]; simp
  have hZ := Lib.hid hz'
  have hgz : g < w1.heap.size := by omega
  have hne : g ≠ w.heap.size := by omega
  clear hw1 hz'
  have i0 : (0 : Int) ≤ (nd : Int) := by omega
  have i1 : (nd : Int) < 6 := by omega
  have hS1 := Lib.hid (hM.out.six hlen.out)
  have hb1 := Lib.hid hgz
  go_region_with (go_at_call 238; refine (hV.out _ (by exact hb1.out) (by exact Six.heap rfl hS1.out)).mono ?_; rintro e w2 ⟨rfl, hb2⟩; have hb3 := Lib.hid ((Below.refl w1.heap.size w1).drew.trans hb2); have hM2 := Lib.hid (hM.out.below hb3.out hgz); have c1 := hM2.out.cell nd (by rw [hlen.out]; omega); have f1 := hM2.out.frozen nd; have xb2 := (hb3.out.cell (p := ⟨w.heap.size, 1, none⟩) hz).trans xb)
  all_goals
    have hfin := Lib.hid (hM2.out.set nd y)
    have hchg : Hid (Chg g (g + 1) w (w2.setCell ⟨g, nd, none⟩ (.int .i64 y))) := (Chg.ofBelow (hb0.out.trans (hb3.out.mono (by omega)))).setCell (p := ⟨g, nd, none⟩) (by simp) _
    go_wp2
    go_end0
    exact ⟨rfl, by rw [hS.out]; exact hfin.out, hchg.out⟩

theorem words_any (g : Nat) (rs : List Int) (w : World) (h6 : rs.length = 6) (hI : IB w g 115 rs) :
    Calls Try.prog 147 #[.pointer (some ⟨g, 0, none⟩)] w (Own6 w rs) := by
  have hC := Lib.hid ((CloneI_any g 0 6 rs g (g + 1) w (by omega) hI.toIS hI.lt).mono fun _ _ => own6_of h6)
  rw [h6] at hC
  clear hI
  go_enter Try.func147, Try.ntmps147
  go_wp2_with (fail)
  refine hC.out.mono ?_
  rintro e w1 ⟨g1, c1, rfl, hg1, ho1, hb1⟩
  have hO1 := Lib.hid ho1
  go_wp2
  go_ret
  exact ⟨g1, c1, rfl, hg1, hO1.out, hb1⟩
end Go.Proofs.Ytmhdijklindipaa

namespace Go.Proofs.Ytmhdijklindipaa
open Go.RowKit
set_option linter.unusedVariables false
set_option maxRecDepth 100000

set_option maxHeartbeats 4000000 in
theorem runSteps_any (L B : Nat) (A : Option Addr) (c : Nat) (es : List In) (g : Nat) (rs : List Int) (w : World) (hok : okCode es = true) (hes : RS In.enc 5 w L B A es) (hB : B ≤ g) (h6 : words6 rs) (hI : IB w g 115 rs) :
    Calls Try.prog 141 #[.slice A es.length c, .func (.func 146) #[.pointer (some ⟨g, 0, none⟩)] #[]] w (StepM w g (runL es rs)) := by
  have hl := okCode_len hok
  have hall := Lib.hid (okCode_all hok)
  have hE := Lib.hid hes
  have hBB := Lib.hid hB
  have hH6 := Lib.hid h6
  have hM0 := Lib.hid hI
  have hgl := hI.lt
  have hc0 := Lib.hid (Chg.refl g (g + 1) w)
  clear hes hB hok h6 hI
  go_enter Try.func141, Try.ntmps141
  go_wp2
  go_loopw [8] (fun i wr => ∃ k : Nat, k ≤ es.length ∧ i = .int .i64 k ∧ IB wr g 115 (runL (es.take k) rs) ∧ Chg g (g + 1) w wr) (fun i _ => es.length - (intOf i).toNat)
  case atStart => exact ⟨0, Nat.zero_le _, rfl, hM0.out, hc0.out⟩
  case round =>
    obtain ⟨k, hk, rfl, hib, hchg⟩ := hrel
    have hM := Lib.hid hib
    have hgw := hib.lt
    have hCh := Lib.hid hchg
    clear hib
    by_cases hlt : k < es.length
    · obtain ⟨b, o, rfl, ⟨_, hbB⟩, hc⟩ := In.cells (hE.out.chg hchg (Nat.le_of_lt (Nat.lt_of_le_of_lt hBB.out hgl)) (.inl hBB.out)) (by omega)
      obtain ⟨d1, d2, d3, d4, d5⟩ := hc k hlt
      clear hc hchg
      have hx := Lib.hid (hall.out _ (List.getElem_mem hlt))
      have hS := Lib.hid (runL_snoc (rs := rs) hlt)
      have hW := Lib.hid (runL_words_take hall.out hH6.out k)
      generalize es[k] = nd at *
      obtain ⟨op, d, a, bb, m⟩ := nd
      have hM2 := fun o => Lib.hid (hM.out.below ((Below.refl wr.heap.size wr).alloc (Nat.le_refl _) o) hgw)
      have hC2 := fun o => Lib.hid (hCh.out.alloc o)
      go_wp2_with (fail)
      refine (stepM_any ⟨op, d, a, bb, m⟩ g _ _ hx.out hW.out (hM2 _).out).mono ?_
      rintro e w3 ⟨rfl, hm3, hc3⟩
      have hM3 := Lib.hid hm3
      have hC3 := Lib.hid ((hC2 _).out.trans hc3)
      clear hm3 hc3 d1 d2 d3 d4 d5
      go_wp2
      go_roundw
      case rel => exact ⟨k + 1, by omega, by go_num, by rw [hS.out]; exact hM3.out, hC3.out⟩
      case measure => simp [intOf]; omega
    · obtain rfl : k = es.length := by omega
      clear hchg
      go_wp2
      go_end0
      exact ⟨rfl, by have := hM.out; rwa [List.take_length] at this, hCh.out⟩

set_option maxHeartbeats 4000000 in
theorem iRunCode_any (L B : Nat) (A : Option Addr) (c : Nat) (es : List In) (L' B' : Nat) (A' : Option Addr) (c' : Nat) (rs : List Int) (w : World) (hl : es.length ≤ 1048576) (hes : RS In.enc 5 w L B A es) (hB : B ≤ w.heap.size) (hl' : rs.length ≤ 1048576) (hI : IS w L' B' A' rs) (hB' : B' ≤ w.heap.size) :
    Calls Try.prog 34 #[.slice A es.length c, .slice A' rs.length c'] w (ResRunCode (runR es rs) (okCode es && regsOk rs) w) := by
  have H := Lib.hid (IsCode_any L B A c es w hl hes hB)
  have hE := Lib.hid hes
  have hE' := Lib.hid hI
  have hBB := Lib.hid hB
  have hBB' := Lib.hid hB'
  clear hes hI hB hB'
  go_enter Try.func34, Try.ntmps34
  go_wp2_with (fail)
  refine H.out.mono ?_
  rintro e w2 ⟨rfl, hb⟩
  have hbb := Lib.hid hb
  have hz := hb.size
  have hE2' := Lib.hid (hE'.out.below hb hBB'.out)
  have hE2 := Lib.hid (hE.out.below hb hBB.out)
  clear hb
  cases hg : okCode es
  · have hR : Hid (runR es rs = []) := by simp [Hid, runR, hg]
    have hK : Hid ((okCode es && regsOk rs) = false) := by simp [Hid, hg]
    go_wp2
    go_ret2
    rw [hR.out, hK.out]; exact ⟨none, 0, rfl, OW.nil _ _ _, hbb.out⟩
  · have hG := Lib.hid hg
    have hC := Lib.hid (areWords_any L' B' A' c' rs w2 hl' hE2'.out)
    cases hr : regsOk rs
    · have hR : Hid (runR es rs = []) := by simp [Hid, runR, hr]
      have hK : Hid ((okCode es && regsOk rs) = false) := by simp [Hid, hr]
      rw [hr] at hC
      go_wp2_with (fail)
      refine hC.out.mono ?_
      rintro e w3 ⟨rfl, rfl⟩
      go_wp2
      go_ret2
      rw [hR.out, hK.out]; exact ⟨none, 0, rfl, OW.nil _ _ _, hbb.out⟩
    · have hR : Hid (runR es rs = runL es rs) := by simp [Hid, runR, hr, hg]
      have hK : Hid ((okCode es && regsOk rs) = true) := by simp [Hid, hr, hg]
      have h6 := regs_words hr
      have hW := Lib.hid h6
      have hrl := Lib.hid (runL_words (okCode_all hg) h6).1
      rw [hr] at hC
      obtain ⟨b', o', rfl, _, _⟩ := hE2'.out.six h6.1
      obtain ⟨r0, r1, r2, r3, r4, r5, rfl⟩ := six_list h6.1
      clear hr hg h6
      go_wp2_with (fail)
      refine hC.out.mono ?_
      rintro e w3 ⟨rfl, rfl⟩
      go_wp2_with (fail)
      refine (machineOf_any b' o' c' r0 r1 r2 r3 r4 r5 _ L' B' hE2'.out (by have := hBB'.out; omega)).mono ?_
      rintro e w4 ⟨rfl, hb4⟩
      have hz4 := hb4.size
      have hE4 := Lib.hid (hE2.out.below hb4 (by have := hBB.out; omega))
      have hbel4 := Lib.hid (hbb.out.trans (hb4.mono hz))
      clear hb4
      have hbel5 := fun o => Lib.hid (hbel4.out.alloc hbel4.out.size o)
      have hE5 := fun o => Lib.hid (hE4.out.below ((Below.refl w4.heap.size w4).alloc (Nat.le_refl _) o) (by have := hBB.out; omega))
      go_wp2_with (fail)
      refine (runSteps_any L B A c es w4.heap.size [r0, r1, r2, r3, r4, r5] _ hG.out (hE5 _).out (by have := hBB.out; omega) hW.out (heap_alloc_new w4 _)).mono ?_
      rintro e w5 ⟨rfl, hm5, hc5⟩
      have hbel6 := Lib.hid (below_chg (hbel5 _).out hc5 (by simp; omega) (by omega))
      have hM5 := Lib.hid hm5
      have hz5 := hc5.size
      simp at hz5
      clear hc5 hm5
      go_wp2_with (fail)
      refine (words_any w4.heap.size _ _ hrl.out hM5.out).mono ?_
      rintro e w6 ⟨g6, c6, rfl, hg6, ho6, hb6⟩
      have hO6 := Lib.hid ho6
      have hbel7 := Lib.hid (hbel6.out.trans (hb6.mono (by omega)))
      clear ho6 hb6
      go_wp2
      go_ret2
      rw [hR.out, hK.out]
      exact own6_res hrl.out (by omega) hO6.out hbel7.out

theorem okCode_one (x : In) : okCode [x] = goodIn x := by simp [okCode]
theorem runR_one (x : In) (rs : List Int) : runR [x] rs = stepR x rs := by simp only [runR, stepR, okCode_one]; rfl
/-- One instruction in a new slice. -/
theorem one_slice {w : World} {t : TypeId} (x : In) : RS In.enc 5 (w.alloc (.cells #[.string x.op, .int .i64 x.d, .int .i64 x.a, .int .i64 x.b, .int .i64 x.m] t)) w.heap.size (w.heap.size + 1) (some ⟨w.heap.size, 0, none⟩) [x] := In.boxed x
set_option maxHeartbeats 4000000 in
theorem iStepInstr_any (x : In) (L B : Nat) (A : Option Addr) (c : Nat) (rs : List Int) (w : World) (hl : rs.length ≤ 1048576) (hI : IS w L B A rs) (hB : B ≤ w.heap.size) :
    Calls Try.prog 37 #[.agg #[.string x.op, .int .i64 x.d, .int .i64 x.a, .int .i64 x.b, .int .i64 x.m], .slice A rs.length c] w (ResStepInstr (stepR x rs) (goodIn x && regsOk rs) w) := by
  have hE := Lib.hid hI
  have hC := fun (L0 B0 : Nat) (A0 : Option Addr) (c0 : Nat) (w' : World) (h0 : RS In.enc 5 w' L0 B0 A0 [x]) (hB0 : B0 ≤ w'.heap.size) (hI' : IS w' L B A rs) (hB' : B ≤ w'.heap.size) => iRunCode_any L0 B0 A0 c0 [x] L B A c rs w' (by simp) h0 hB0 hl hI' hB'
  simp only [runR_one, okCode_one, List.length_singleton] at hC
  have hCC := Lib.hid hC
  obtain ⟨op, d, a, b, m⟩ := x
  obtain ⟨o, ho⟩ : ∃ o : Obj, o = .cells #[.string op, .int .i64 d, .int .i64 a, .int .i64 b, .int .i64 m] 56 := ⟨_, rfl⟩
  have hone : Hid (RS In.enc 5 ((w.alloc o).alloc o) (w.heap.size + 1) (w.heap.size + 2) (some ⟨w.heap.size + 1, 0, none⟩) [⟨op, d, a, b, m⟩]) := by
    have := In.boxed (w := w.alloc o) (t := 56) ⟨op, d, a, b, m⟩
    rw [show (w.alloc o).heap.size = w.heap.size + 1 by simp] at this
    rw [Hid]; subst ho; exact this
  have hb0 := Lib.hid (((Below.refl w.heap.size w).alloc (Nat.le_refl _) o).alloc (by simp) o)
  have hE2 := Lib.hid (hE.out.below hb0.out hB)
  subst ho
  clear hI hC
  go_enter Try.func37, Try.ntmps37
  go_wp2_with (fail)
  refine (hCC.out (w.heap.size + 1) (w.heap.size + 2) (some ⟨w.heap.size + 1, 0, none⟩) 1 _ hone.out (by simp) hE2.out (by simp; omega)).mono ?_
  rintro e w1 ⟨A1, c1, rfl, ho1, hb1⟩
  have hO1 := Lib.hid (ho1.lower (show w.heap.size ≤ _ by simp; omega))
  have hbel1 := Lib.hid (hb0.out.trans (hb1.mono (by simp; omega)))
  clear ho1 hb1
  go_wp2
  go_ret2
  exact ⟨A1, c1, rfl, hO1.out, hbel1.out⟩
end Go.Proofs.Ytmhdijklindipaa
