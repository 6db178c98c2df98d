/- Texts of this proof, one behind the other: BY, CS, SG, VG, VH, VI. -/
import Derived.Test.YthjfedidpjfboaaZ4
import Derived.Test.YthjfedidpjfboaaLawC
import Derived.WalkKit
import Derived.WalkSpells
import Derived.WalkLawsBesides
import Derived.Lib.Hide
import Derived.Test.YthjfedidpjfboaaZ15
import Derived.Test.YthjfedidpjfboaaZ11
import Derived.Test.YthjfedidpjfboaaZ3
import Derived.Deep.RegionHeld3
import Derived.Deep.RegionLaw
import Derived.Test.YthjfedidpjfboaaCO
import Derived.Deep.QuietTactic
import Derived.BigQuiet
import Derived.Test.YthjfedidpjfboaaZ13
import Derived.Test.YthjfedidpjfboaaZ7
/- LiveBefore, MostAlive: both sides. -/
namespace Go.Proofs.Ythjfedidpjfboaa
open Go.RowKit
set_option linter.unusedVariables false
set_option maxRecDepth 100000

theorem OX.at {w : World} {lo hi n c : Nat} {A : Option Addr} {xss : List (List Int)} (h : OX w lo hi (.slice A n c) xss) {i : Nat} (hi' : i < xss.length) :
    ∃ b o Ai ci, A = some ⟨b, o, none⟩ ∧ w.cell? ⟨b, o + i, none⟩ = some (.slice Ai (xss[i]).length ci) ∧ OW w lo hi (.slice Ai (xss[i]).length ci) xss[i] := by
  obtain ⟨vs, hO, hR⟩ := h.parts
  obtain ⟨b, o, e, _, hc⟩ := okv_rs hO (by rw [hR.len]; omega)
  have hiv : i < vs.length := by rw [hR.len]; exact hi'
  obtain ⟨⟨Ai, ci, e2⟩, hOW⟩ := hR.row i hiv hi'
  have h1 := hc i hiv 0 vs[i] rfl
  rw [e2] at h1 hOW
  exact ⟨b, o, Ai, ci, e, by simpa using h1, hOW⟩
def lbR (cs : List In) (out : List Int) : List Int := if ddOk cs out = true then mkT (lvS (setsTo out out.length) cs) else []
theorem lbR_len (cs : List In) (out : List Int) : (lbR cs out).length ≤ 1048576 := by
  unfold lbR
  split
  · have := mkT_len6 (lvS (setsTo out out.length) cs); omega
  · simp
theorem lbR_no {cs : List In} {out : List Int} (h : ddOk cs out = false) : lbR cs out = [] := by unfold lbR; rw [h]; rfl
theorem ls_first {cs : List In} {out : List Int} (h : ddOk cs out = true) : ∃ h0 : 0 < (lsR cs out).length, (lsR cs out)[0] = lbR cs out := by
  have e : lsR cs out = lvX (setsTo out out.length) cs := by unfold lsR; rw [if_pos h]
  have e2 : lbR cs out = mkT (lvS (setsTo out out.length) cs) := by unfold lbR; rw [if_pos h]
  obtain ⟨t, ht⟩ := lvX_head (setsTo out out.length) cs
  rw [e, e2]
  refine ⟨by rw [lvX_len]; omega, ?_⟩
  simp only [ht, List.getElem_cons_zero]
def maxTo (xss : List (List Int)) (k : Nat) : Int := (xss.take k).foldl (fun m xs => max m (xs.length : Int)) 0
theorem maxTo_succ {xss : List (List Int)} {k : Nat} (h : k < xss.length) : maxTo xss (k + 1) = max (maxTo xss k) (xss[k].length : Int) := by
  unfold maxTo; rw [List.take_succ_eq_append_getElem h, List.foldl_append]; rfl
def maR (cs : List In) (out : List Int) : Int := maxTo (lsR cs out) (lsR cs out).length
theorem maR_no {cs : List In} {out : List Int} (h : ddOk cs out = false) : maR cs out = 0 := by
  have e : lsR cs out = [] := by unfold lsR; rw [h]; rfl
  unfold maR; rw [e]; rfl

set_option maxHeartbeats 4000000 in
theorem iLiveBefore_k (L B : Nat) (A : Option Addr) (c : Nat) (cs : List In) (L' B' : Nat) (A' : Option Addr) (c' : Nat) (out : List Int) (w : World) (hl : cs.length ≤ 1048576) (hes : RS In.enc 5 w L B A cs) (hB : B ≤ w.heap.size) (hn : out.length ≤ 1048576) (hns : IS w L' B' A' out) (hB' : B' ≤ w.heap.size) :
    Calls Try.prog 41 #[.slice A cs.length c, .slice A' out.length c'] w (ResLiveBefore (lbR cs out) (ddOk cs out) w) := by
  have H := Lib.hid (iLiveSets_k L B A c cs L' B' A' c' out w hl hes hB hn hns hB')
  clear hes hns
  cases hd : ddOk cs out
  · have hR := Lib.hid (lbR_no hd)
    rw [hd] at H
    clear hd
    go_enter Try.func41, Try.ntmps41
    go_wp2_with (fail)
    refine H.out.mono ?_
    rintro e w1 ⟨A1, c1, rfl, ho1, hb1⟩
    have hbh := Lib.hid hb1
    clear hb1 ho1
    go_wp2
    go_ret2
    rw [hR.out]
    exact ⟨none, 0, rfl, OW.nil _ _ _, hbh.out⟩
  · obtain ⟨h0, hf⟩ := ls_first hd
    have hF := Lib.hid hf
    rw [hd] at H
    clear hd hf
    go_enter Try.func41, Try.ntmps41
    go_wp2_with (fail)
    refine H.out.mono ?_
    rintro e w1 ⟨A1, c1, rfl, ho1, hb1⟩
    obtain ⟨b, o, Ai, ci, rfl, hc, hOW⟩ := ho1.at h0
    have hbh := Lib.hid hb1
    have hOWh := Lib.hid hOW
    rw [hF.out] at hc hOWh
    have hc0 : w1.cell? ⟨b, o, none⟩ = some (.slice Ai (lbR cs out).length ci) := hc
    have h0i : (0 : Int) < ((lsR cs out).length : Int) := by omega
    clear hb1 ho1 hOW hc hF
    generalize lbR cs out = R at *
    generalize lsR cs out = X at *
    go_wp2
    go_ret2
    exact ⟨Ai, ci, rfl, hOWh.out, hbh.out⟩
set_option maxHeartbeats 4000000 in
theorem iMostAlive_k (L B : Nat) (A : Option Addr) (c : Nat) (cs : List In) (L' B' : Nat) (A' : Option Addr) (c' : Nat) (out : List Int) (w : World) (hl : cs.length ≤ 1048576) (hes : RS In.enc 5 w L B A cs) (hB : B ≤ w.heap.size) (hn : out.length ≤ 1048576) (hns : IS w L' B' A' out) (hB' : B' ≤ w.heap.size) :
    Calls Try.prog 48 #[.slice A cs.length c, .slice A' out.length c'] w (ResMostAlive (maR cs out) (ddOk cs out) w) := by
  have H := Lib.hid (iLiveSets_k L B A c cs L' B' A' c' out w hl hes hB hn hns hB')
  have hS := Lib.hid (lsR_small cs out).1
  have hR : Hid (maR cs out = maxTo (lsR cs out) (lsR cs out).length) := rfl
  clear hes hns
  generalize maR cs out = R at *
  generalize ddOk cs out = q at *
  generalize lsR cs out = X at *
  have hsu := Lib.hid fun (k : Nat) (h : k < X.length) => maxTo_succ h
  have h00 : Hid (maxTo X 0 = 0) := rfl
  generalize maxTo X = F at *
  go_enter Try.func48, Try.ntmps48
  go_wp2_with (fail)
  refine H.out.mono ?_
  rintro e w1 ⟨A1, c1, rfl, ho1, hb1⟩
  have hbh := Lib.hid hb1
  have hO := Lib.hid ho1
  have hl := hS.out
  clear hb1 ho1
  go_wp2
  go_loop [8, 19] (fun m i => ∃ k : Nat, k ≤ X.length ∧ i = .int .i64 k ∧ m = .int .i64 (F k)) (fun _ i => X.length - (intOf i).toNat)
  case atStart => exact ⟨0, Nat.zero_le _, rfl, by rw [h00.out]⟩
  case round =>
    obtain ⟨k, hk, rfl, rfl⟩ := hrel
    by_cases hlt : k < X.length
    · obtain ⟨b, o, Ai, ci, rfl, hc, hOW⟩ := hO.out.at hlt
      have hs := Lib.hid (hsu.out k hlt)
      have hki : (k : Int) < (X.length : Int) := by omega
      clear hOW
      generalize hz : (X[k]).length = z at *
      clear hz
      generalize hnx : F (k + 1) = nx at *
      have hnx2 := Lib.hid hnx
      clear hnx
      generalize F k = fk at *
      go_wp2
      go_round
      case rel => exact ⟨k + 1, by omega, by go_num, by rw [hnx2.out, hs.out]⟩
      case measure => simp [intOf]; omega
    · obtain rfl : k = X.length := by omega
      go_wp2
      go_ret2
      exact ⟨by rw [hR.out]; rfl, hbh.out⟩
set_option maxHeartbeats 4000000 in
theorem sLiveBefore_k (L B : Nat) (A : Option Addr) (c : Nat) (cs : List In) (L' B' : Nat) (A' : Option Addr) (c' : Nat) (out : List Int) (w : World) (hl : cs.length ≤ 1048576) (hes : RS In.enc 5 w L B A cs) (hB : B ≤ w.heap.size) (hn : out.length ≤ 1048576) (hns : IS w L' B' A' out) (hB' : B' ≤ w.heap.size) :
    Calls Try.prog 40 #[.slice A cs.length c, .slice A' out.length c'] w (ResLiveBefore (lbR cs out) (ddOk cs out) w) := by
  have H := Lib.hid (cdCode_any L B A c cs w hl hes hB)
  cases hk : okCode cs
  · have hR := Lib.hid (ddOk_no1 out hk).1
    have hN := Lib.hid (lbR_no hR.out)
    rw [hk] at H
    clear hk hes hns
    go_enter Try.func40, Try.ntmps40
    go_wp2_with (fail)
    refine H.out.mono ?_
    rintro e w1 ⟨rfl, hb1⟩
    have hbh := Lib.hid hb1
    clear hb1
    go_wp2
    go_ret2
    rw [hR.out, hN.out]
    exact ⟨none, 0, rfl, OW.nil _ _ _, hbh.out⟩
  have H2 := Lib.hid fun (W : World) (hW : Below w.heap.size w W) => cdWanted_any L' B' A' c' out W hn (hns.below hW hB')
  cases hr : riseB out
  · have hR := Lib.hid (ddOk_no2 cs hr).1
    have hN := Lib.hid (lbR_no hR.out)
    rw [hk] at H
    rw [hr] at H2
    clear hk hr hes hns
    go_enter Try.func40, Try.ntmps40
    go_wp2_with (fail)
    refine H.out.mono ?_
    rintro e w1 ⟨rfl, hb1⟩
    have hbh := Lib.hid hb1
    clear hb1
    go_wp2_with (fail)
    refine (H2.out _ hbh.out).mono ?_
    rintro e w2 ⟨rfl, rfl⟩
    go_wp2
    go_ret2
    rw [hR.out, hN.out]
    exact ⟨none, 0, rfl, OW.nil _ _ _, hbh.out⟩
  have hR := Lib.hid (ddOk_yes hk hr)
  have hX := Lib.hid fun (W : World) (hW : Below w.heap.size w W) => (show Calls Try.prog 100 #[.slice A cs.length c, .slice A' out.length c'] W (SetsGot W (lsR cs out)) from by
    have h := cdSets_any L B L' B' A A' c c' cs (setsTo out out.length) W (okCode_len hk) (okCode_all hk) (setsTo_len _ _) (hes.below hW hB) (Nat.le_trans hB hW.size) (by rw [(rise_bits hr).2]; exact hns.below hW hB') (Nat.le_trans hB' hW.size)
    rw [(rise_bits hr).2] at h
    rw [hR.out.2]
    exact h)
  have hdd := Lib.hid hR.out.1
  rw [hk] at H
  rw [hr] at H2
  clear hk hr hes hns hR
  obtain ⟨h0, hf⟩ := ls_first hdd.out
  have hF := Lib.hid hf
  have h0i : (0 : Int) < ((lsR cs out).length : Int) := by omega
  rw [hdd.out]
  clear hf
  go_enter Try.func40, Try.ntmps40
  go_wp2_with (fail)
  refine H.out.mono ?_
  rintro e w1 ⟨rfl, hb1⟩
  have hbh := Lib.hid hb1
  clear hb1
  go_wp2_with (fail)
  refine (H2.out _ hbh.out).mono ?_
  rintro e w2 ⟨rfl, rfl⟩
  go_wp2_with (fail)
  refine (hX.out _ hbh.out).mono ?_
  rintro e w3 ⟨A3, c3, rfl, ho3, hb3⟩
  obtain ⟨b, o, Ai, ci, rfl, hc, hOW⟩ := ho3.at h0
  have hOWh := Lib.hid (hOW.lower hbh.out.size)
  have hB3 := Lib.hid (hbh.out.trans (hb3.mono hbh.out.size))
  rw [hF.out] at hc hOWh
  have hc0 : w3.cell? ⟨b, o, none⟩ = some (.slice Ai (lbR cs out).length ci) := hc
  clear ho3 hb3 hOW hc hF hdd
  generalize lbR cs out = R at *
  generalize lsR cs out = X at *
  go_wp2
  go_ret2
  exact ⟨Ai, ci, rfl, hOWh.out, hB3.out⟩
set_option maxHeartbeats 4000000 in
theorem sMostAlive_k (L B : Nat) (A : Option Addr) (c : Nat) (cs : List In) (L' B' : Nat) (A' : Option Addr) (c' : Nat) (out : List Int) (w : World) (hl : cs.length ≤ 1048576) (hes : RS In.enc 5 w L B A cs) (hB : B ≤ w.heap.size) (hn : out.length ≤ 1048576) (hns : IS w L' B' A' out) (hB' : B' ≤ w.heap.size) :
    Calls Try.prog 47 #[.slice A cs.length c, .slice A' out.length c'] w (ResMostAlive (maR cs out) (ddOk cs out) w) := by
  have H := Lib.hid (cdCode_any L B A c cs w hl hes hB)
  cases hk : okCode cs
  · have hR := Lib.hid (ddOk_no1 out hk).1
    have hN := Lib.hid (maR_no hR.out)
    rw [hk] at H
    clear hk hes hns
    go_enter Try.func47, Try.ntmps47
    go_wp2_with (fail)
    refine H.out.mono ?_
    rintro e w1 ⟨rfl, hb1⟩
    have hbh := Lib.hid hb1
    clear hb1
    go_wp2
    go_ret2
    rw [hR.out, hN.out]
    exact ⟨rfl, hbh.out⟩
  have H2 := Lib.hid fun (W : World) (hW : Below w.heap.size w W) => cdWanted_any L' B' A' c' out W hn (hns.below hW hB')
  cases hr : riseB out
  · have hR := Lib.hid (ddOk_no2 cs hr).1
    have hN := Lib.hid (maR_no hR.out)
    rw [hk] at H
    rw [hr] at H2
    clear hk hr hes hns
    go_enter Try.func47, Try.ntmps47
    go_wp2_with (fail)
    refine H.out.mono ?_
    rintro e w1 ⟨rfl, hb1⟩
    have hbh := Lib.hid hb1
    clear hb1
    go_wp2_with (fail)
    refine (H2.out _ hbh.out).mono ?_
    rintro e w2 ⟨rfl, rfl⟩
    go_wp2
    go_ret2
    rw [hR.out, hN.out]
    exact ⟨rfl, hbh.out⟩
  have hR := Lib.hid (ddOk_yes hk hr)
  have hX := Lib.hid fun (W : World) (hW : Below w.heap.size w W) => (show Calls Try.prog 100 #[.slice A cs.length c, .slice A' out.length c'] W (SetsGot W (lsR cs out)) from by
    have h := cdSets_any L B L' B' A A' c c' cs (setsTo out out.length) W (okCode_len hk) (okCode_all hk) (setsTo_len _ _) (hes.below hW hB) (Nat.le_trans hB hW.size) (by rw [(rise_bits hr).2]; exact hns.below hW hB') (Nat.le_trans hB' hW.size)
    rw [(rise_bits hr).2] at h
    rw [hR.out.2]
    exact h)
  have hdd := Lib.hid hR.out.1
  rw [hk] at H
  rw [hr] at H2
  clear hk hr hes hns hR
  have hRm : Hid (maR cs out = maxTo (lsR cs out) (lsR cs out).length) := rfl
  have hS := Lib.hid (lsR_small cs out).1
  rw [hdd.out]
  clear hdd
  generalize maR cs out = R at *
  generalize lsR cs out = X at *
  have hsu := Lib.hid fun (k : Nat) (h : k < X.length) => maxTo_succ h
  have h00 : Hid (maxTo X 0 = 0) := rfl
  have hMx := Lib.hid l1Most_any
  generalize maxTo X = F at *
  go_enter Try.func47, Try.ntmps47
  go_wp2_with (fail)
  refine H.out.mono ?_
  rintro e w1 ⟨rfl, hb1⟩
  have hbh := Lib.hid hb1
  clear hb1
  go_wp2_with (fail)
  refine (H2.out _ hbh.out).mono ?_
  rintro e w2 ⟨rfl, rfl⟩
  go_wp2_with (fail)
  refine (hX.out _ hbh.out).mono ?_
  rintro e w3 ⟨A3, c3, rfl, ho3, hb3⟩
  have hO := Lib.hid ho3
  have hB3 := Lib.hid (hbh.out.trans (hb3.mono hbh.out.size))
  have hl := hS.out
  clear ho3 hb3
  go_wp2
  go_loopw [6, 21] (fun m i wr => ∃ k : Nat, k ≤ X.length ∧ i = .int .i64 k ∧ m = .int .i64 (F k) ∧ wr = w3) (fun _ i _ => X.length - (intOf i).toNat)
  case atStart => exact ⟨0, Nat.zero_le _, rfl, by rw [h00.out], by first | rfl | trivial⟩
  case round =>
    obtain ⟨k, hk, rfl, rfl, rfl⟩ := hrel
    by_cases hlt : k < X.length
    · obtain ⟨b, o, Ai, ci, rfl, hc, hOW⟩ := hO.out.at hlt
      have hs := Lib.hid (hsu.out k hlt)
      have hki : (k : Int) < (X.length : Int) := by omega
      clear hOW
      generalize hz : (X[k]).length = z at *
      clear hz
      generalize hnx : F (k + 1) = nx at *
      have hnx2 := Lib.hid hnx
      clear hnx
      generalize F k = fk at *
      go_wp2_with (fail)
      refine (hMx.out _ _ _).mono ?_
      rintro e w4 ⟨rfl, rfl⟩
      go_wp2
      go_roundw
      case rel => exact ⟨k + 1, by omega, by go_num, by rw [hnx2.out, hs.out], by first | rfl | trivial⟩
      case measure => simp [intOf]; omega
    · obtain rfl : k = X.length := by omega
      go_wp2
      go_ret2
      exact ⟨by rw [hRm.out]; rfl, hB3.out⟩
end Go.Proofs.Ythjfedidpjfboaa

namespace Go.Proofs.Ythjfedidpjfboaa
open Go.RowKit
set_option linter.unusedVariables false
set_option maxRecDepth 100000

def resOk (es : List In) (x0 x1 r : Int) : Bool := okCode es && isW x0 && isW x1 && reg r
def resR (es : List In) (x0 x1 r : Int) : Int := if resOk es x0 x1 r = true then (runL es [x0, x1, 0, 0, 0, 0]).getD r.toNat 0 else 0
theorem start_words {x0 x1 : Int} (h0 : isW x0 = true) (h1 : isW x1 = true) : words6 [x0, x1, 0, 0, 0, 0] := by
  have a : inR x0 0 63 = true := h0
  have b : inR x1 0 63 = true := h1
  have z : inR 0 0 63 = true := by decide
  exact ⟨rfl, by simp [a, b, z]⟩
theorem cdStart_any (x0 x1 : Int) (w : World) :
    Calls Try.prog 113 #[.int .i64 x0, .int .i64 x1] w fun e w' => e = .returned (.slice (some ⟨w.heap.size, 0, none⟩) 6 6) ∧ IB w' w.heap.size 3 [x0, x1, 0, 0, 0, 0] ∧ Below w.heap.size w w' := by
  have hmk : (Instr.makeSlice 32 (.int .i64 6) (.int .i64 6)).run Try.prog w = .ok (.slice (some ⟨w.heap.size, 0, none⟩) 6 6) (w.alloc (.cells (intCells [0, 0, 0, 0, 0, 0]) 3)) := run_make_ints 6 (by omega) w
  have hi0 : IB (w.alloc (.cells (intCells [0, 0, 0, 0, 0, 0]) 3)) w.heap.size 3 [0, 0, 0, 0, 0, 0] := heap_alloc_new w _
  have hI0 := Lib.hid hi0
  have c0 := hi0.cell 0 (by simp)
  have f0 := hi0.frozen 0
  have c1 := (hi0.set 0 x0).cell 1 (by simp)
  have f1 := (hi0.set 0 x0).frozen 1
  have hI2 := Lib.hid ((hi0.set 0 x0).set 1 x1)
  have hB := Lib.hid ((((Below.refl w.heap.size w).alloc (Nat.le_refl _) (.cells (intCells [0, 0, 0, 0, 0, 0]) 3)).setCell (p := ⟨w.heap.size, 0, none⟩) (Nat.le_refl _) (.int .i64 x0)).setCell (p := ⟨w.heap.size, 1, none⟩) (Nat.le_refl _) (.int .i64 x1))
  clear hi0
  go_enter Try.func113, Try.ntmps113
  go_wp2
  go_ret
  exact ⟨rfl, heap_alloc_new w _, (Below.refl _ _).alloc (Nat.le_refl _) _⟩

set_option maxHeartbeats 4000000 in
theorem iResultOf_any (L B : Nat) (A : Option Addr) (c : Nat) (es : List In) (x0 x1 r : Int) (w : World) (hl : es.length ≤ 1048576) (hes : RS In.enc 5 w L B A es) (hB : B ≤ w.heap.size) :
    Calls Try.prog 117 #[.slice A es.length c, .int .i64 x0, .int .i64 x1, .int .i64 r] w (ResResultOf (resR es x0 x1 r) (resOk es x0 x1 r) w) := by
  have H := Lib.hid (IsCode_any L B A c es w hl hes hB)
  have hE := Lib.hid hes
  have hBB := Lib.hid hB
  clear hes hB
  go_enter Try.func117, Try.ntmps117
  go_wp2_with (fail)
  refine H.out.mono ?_
  rintro e w2 ⟨rfl, hb⟩
  have hbb := Lib.hid hb
  have hz := hb.size
  have hE2 := Lib.hid (hE.out.below hb hBB.out)
  clear hb
  cases h0 : okCode es
  · have hK : Hid (resOk es x0 x1 r = false) := by simp [Hid, resOk, h0]
    have hR : Hid (resR es x0 x1 r = 0) := by simp [Hid, resR, hK.out]
    go_wp2_with (first | (go_at_call 160; refine (isWord_any _ _).mono ?_; rintro e w' ⟨rfl, rfl⟩) | (go_at_call 114; refine (isRegister_any _ _).mono ?_; rintro e w' ⟨rfl, rfl⟩))
    go_ret2
    rw [hR.out, hK.out]; exact ⟨rfl, hbb.out⟩
  cases h1 : isW x0
  · have hK : Hid (resOk es x0 x1 r = false) := by simp [Hid, resOk, h0, h1]
    have hR : Hid (resR es x0 x1 r = 0) := by simp [Hid, resR, hK.out]
    go_wp2_with (first | (go_at_call 160; refine (isWord_any _ _).mono ?_; rintro e w' ⟨rfl, rfl⟩) | (go_at_call 114; refine (isRegister_any _ _).mono ?_; rintro e w' ⟨rfl, rfl⟩))
    go_ret2
    rw [hR.out, hK.out]; exact ⟨rfl, hbb.out⟩
  cases h2 : isW x1
  · have hK : Hid (resOk es x0 x1 r = false) := by simp [Hid, resOk, h0, h1, h2]
    have hR : Hid (resR es x0 x1 r = 0) := by simp [Hid, resR, hK.out]
    go_wp2_with (first | (go_at_call 160; refine (isWord_any _ _).mono ?_; rintro e w' ⟨rfl, rfl⟩) | (go_at_call 114; refine (isRegister_any _ _).mono ?_; rintro e w' ⟨rfl, rfl⟩))
    go_ret2
    rw [hR.out, hK.out]; exact ⟨rfl, hbb.out⟩
  cases h3 : reg r
  · have hK : Hid (resOk es x0 x1 r = false) := by simp [Hid, resOk, h0, h1, h2, h3]
    have hR : Hid (resR es x0 x1 r = 0) := by simp [Hid, resR, hK.out]
    go_wp2_with (first | (go_at_call 160; refine (isWord_any _ _).mono ?_; rintro e w' ⟨rfl, rfl⟩) | (go_at_call 114; refine (isRegister_any _ _).mono ?_; rintro e w' ⟨rfl, rfl⟩))
    go_ret2
    rw [hR.out, hK.out]; exact ⟨rfl, hbb.out⟩
  have hK : Hid (resOk es x0 x1 r = true) := by simp [Hid, resOk, h0, h1, h2, h3]
  have hR : Hid (resR es x0 x1 r = (runL es [x0, x1, 0, 0, 0, 0]).getD r.toNat 0) := by simp [Hid, resR, hK.out]
  have hW := Lib.hid (start_words h1 h2)
  have hG := Lib.hid h0
  have hrl := Lib.hid (runL_words (okCode_all h0) hW.out).1
  obtain ⟨hr0, hr1⟩ := (inR_iff _ _ _).1 h3
  obtain ⟨nr, rfl⟩ := Int.eq_ofNat_of_zero_le hr0
  simp only [Int.toNat_natCast] at hR
  have hc1 := h1
  have hc2 := h2
  have hc3 := h3
  clear h0 hr0
  have hbel3 := fun o => Lib.hid (hbb.out.alloc hz o)
  have hE3 := fun o => Lib.hid (hE2.out.below ((Below.refl w2.heap.size w2).alloc (Nat.le_refl _) o) (by have := hBB.out; omega))
  go_wp2_with (first | (go_at_call 160; refine (isWord_any _ _).mono ?_; rintro e w' ⟨rfl, rfl⟩) | (go_at_call 114; refine (isRegister_any _ _).mono ?_; rintro e w' ⟨rfl, rfl⟩))
  clear h1 h2 h3 hc1 hc2 hc3
  refine (runSteps_any L B A c es w2.heap.size [x0, x1, 0, 0, 0, 0] _ hG.out (hE3 _).out (by have := hBB.out; omega) hW.out (heap_alloc_new w2 _)).mono ?_
  rintro e w5 ⟨rfl, hm5, hc5⟩
  have hbel6 := Lib.hid (below_chg (hbel3 _).out hc5 (by simp; omega) (by omega))
  have d1 : w5.cell? ⟨w2.heap.size, nr, none⟩ = some (.int .i64 ((runL es [x0, x1, 0, 0, 0, 0]).getD nr 0)) := by have := hm5.six hrl.out nr (by omega); rwa [Nat.zero_add] at this
  generalize (runL es [x0, x1, 0, 0, 0, 0]).getD nr 0 = y at d1 hR
  clear hm5 hc5
  have i0 : (0 : Int) ≤ (nr : Int) := by omega
  have i1 : (nr : Int) < 6 := by omega
  go_wp2
  go_ret2
  rw [hR.out, hK.out]; exact ⟨rfl, hbel6.out⟩
end Go.Proofs.Ythjfedidpjfboaa

/- vaSwap, FollowPath of the model. -/
namespace Go.Proofs.Ythjfedidpjfboaa
open Go.RowKit
set_option linter.unusedVariables false
set_option maxRecDepth 100000

def ResSw (R0 : List In) (R1 : Bool) (w : World) (e : Ending) (w' : World) : Prop := ∃ (A0 : Option Addr) (c0 : Nat), e = .returned (.tuple #[.slice A0 R0.length c0, .bool R1]) ∧ OK In.enc 5 90 w' w.heap.size w'.heap.size (.slice A0 R0.length c0) R0 ∧ Below w.heap.size w w'
set_option maxHeartbeats 8000000 in
theorem vaSwap_any (L B : Nat) (A : Option Addr) (c : Nat) (es : List In) (n : Nat) (w : World) (hk : okCode es = true) (hn : n + 1 < es.length) (hes : RS In.enc 5 w L B A es) (hB : B ≤ w.heap.size) :
    Calls Try.prog 81 #[.slice A es.length c, .int .i64 (n : Int)] w (ResSw (swapR es n) (swOk es n) w) := by
  have hl : es.length ≤ 1048576 := by have := okCode_len hk; omega
  have hE := Lib.hid hes
  have hBB := Lib.hid hB
  have hG := Lib.hid hk
  have hall := Lib.hid (okCode_all hk)
  have hlen := Lib.hid (okCode_len hk)
  have hr' : Hid (inR (n : Int) 0 ((es.length : Int) - 2) = true) := by rw [Hid, inR_iff]; omega
  have hn' : n < es.length := by omega
  obtain ⟨b, o, rfl, ⟨_, hbB⟩, hc⟩ := In.cells hes (by omega)
  obtain ⟨c1, c2, c3, c4, c5⟩ := hc n hn'
  obtain ⟨d1, d2, d3, d4, d5⟩ := hc (n + 1) hn
  have hg0 : es.getD n zeroIn = es[n] := by rw [List.getD_eq_getElem?_getD, List.getElem?_eq_getElem hn']; rfl
  have hg1 : es.getD (n + 1) zeroIn = es[n + 1] := by rw [List.getD_eq_getElem?_getD, List.getElem?_eq_getElem hn]; rfl
  have hK0 : Hid (swOk es n = freeB es[n] es[n + 1]) := by rw [Hid, swOk, hG.out, hr'.out, Int.toNat_natCast, hg0, hg1]; rfl
  have hR0 : Hid (swOk es n = true → swapR es n = (es.set n es[n + 1]).set (n + 1) es[n]) := by intro h; rw [swapR, if_pos h, Int.toNat_natCast, hg0, hg1]
  have hA := Lib.hid (fun W => cdFree_any es[n] es[n + 1] W)
  clear hg0 hg1 hc hes hB hk
  have i1 : (n : Int) < es.length := by omega
  have i2 : (n : Int) + 1 < es.length := by omega
  have hw1 : IntKind.i64.wrap ((n : Int) + 1) = (n : Int) + 1 := IntWalk.i64_in _ (by omega)
  have hw2 : ((n : Int) + 1).toNat = n + 1 := by omega
  have i0' : (0 : Int) ≤ (n : Int) + 1 := by omega
  generalize hx : es[n] = x at *
  generalize hy : es[n + 1] = y at *
  obtain ⟨op, d, a, b1, m⟩ := x
  obtain ⟨op', d', a', b1', m'⟩ := y
  have hxx := Lib.hid hx
  have hyy := Lib.hid hy
  clear hx hy
  simp only at c1 c2 c3 c4 c5 d1 d2 d3 d4 d5 hA
  generalize hf : freeB ⟨op, d, a, b1, m⟩ ⟨op', d', a', b1', m'⟩ = F at *
  clear hf
  go_enter Try.func81, Try.ntmps81
  go_wp2_with (fail)
  go_region_law (go_simp; go_at_call 146; (with_reducible refine (hA.out _).mono ?_); rintro e w3 ⟨rfl, hb3⟩)
  all_goals
    have hb3' := Lib.hid ((Below.refl w.heap.size w).drew.trans hb3)
    have hbb3 := hb3'
    have hz3 := hb3'.out.size
    have hz2' : w.heap.size ≤ w.heap.size := Nat.le_refl _
    have hE3 := Lib.hid (hE.out.below hbb3.out hBB.out)
    clear hb3 c1 c2 c3 c4 c5 d1 d2 d3 d4 d5
    cases F
    · have hK : Hid (swOk es n = false) := hK0.out
      have hR := Lib.hid (swapR_no hK.out)
      go_wp2
      go_ret2
      rw [hR.out, hK.out]; exact ⟨none, 0, rfl, OK.nil _ _ _ _, hbb3.out⟩
    have hK : Hid (swOk es n = true) := hK0.out
    have hR := Lib.hid (hR0.out hK.out)
    obtain ⟨i0, hi, hz0, hz1, hz2x⟩ := info_parts Try.infoInstr
    have hz3' : Hid (w.heap.size ≤ w3.heap.size) := Nat.le_trans hz2' hz3
    have hBz : Hid (B ≤ w3.heap.size) := Nat.le_trans hBB.out hz3'.out
    have hb3w : Hid (b < w3.heap.size) := Nat.lt_of_lt_of_le hbB hBz.out
    have hb0 := Lib.hid ((Below.refl w3.heap.size w3).alloc (Nat.le_refl _) (.cells #[] 90))
    have hnews := Lib.hid ((hE3.out.below hb0.out (by have := hBB.out; omega)).news In.hk)
    have hown := Lib.hid (World.ownsRow_made (base := w3.heap.size) (e := 90) (size := 5) w3 #[] 0 (Nat.le_refl _) (by unfold maxLen; omega) (by simp))
    go_wp2_with (at_builtin; refine wpList_append_src rfl _ _ 34 rfl w3.heap.size 90 i0 _ 5 48 Try.underlying34 hi hz0 hz1 hz2x rfl (by decide) _ 0 [] rfl hown.out (some ⟨b, o, none⟩) es.length c (es.flatMap In.enc) rfl (kflat_len In.hk es) hnews.out (five_ones es) (by unfold maxLen; omega) (by omega) (by simp) ?_; intro v' w4 hown' hgrow _; simp only [Nat.zero_add, List.nil_append] at hown'; have ho4 := OK.ofRow hown' rfl; have hb4 : Below w3.heap.size w3 w4 := (hb0.out.grown hgrow (by simp) (fun k hk => (by cases hk; exact Nat.le_refl _))); have hz4 := hb4.size; have hbb4 := Lib.hid (hbb3.out.trans (hb4.mono hz3'.out)); obtain ⟨⟨c1, c2, c3, c4, c5⟩, ⟨d1, d2, d3, d4, d5⟩⟩ := code_two (hE3.out.below hb4 hBz.out) hn hxx.out hyy.out; simp only at c1 c2 c3 c4 c5 d1 d2 d3 d4 d5; obtain ⟨g, cap, rest, rfl, hgl, hgh, hlc, hcm, hcb, hcl⟩ := OK.some' ho4 (Nat.lt_of_le_of_lt (Nat.zero_le _) hn); have hCB := Lib.hid hcb; have hgl' := Lib.hid hgl; have hcl' := Lib.hid hcl; have hcm' := Lib.hid hcm; have hlc' := Lib.hid hlc; obtain ⟨z0, z1, z2, z3, z4, p1, p2, p3, p4, p5⟩ := In.cellsB hcb n hn'; obtain ⟨y0, y1, y2, y3, y4, q1, q2, q3, q4, q5⟩ := In.cellsB hcb (n + 1) hn; have f1 := hcb.frozen (n * 5); have f2 := hcb.frozen (n * 5 + 1); have f3 := hcb.frozen (n * 5 + 2); have f4 := hcb.frozen (n * 5 + 3); have f5 := hcb.frozen (n * 5 + 4); have g1 := hcb.frozen ((n + 1) * 5); have g2 := hcb.frozen ((n + 1) * 5 + 1); have g3 := hcb.frozen ((n + 1) * 5 + 2); have g4 := hcb.frozen ((n + 1) * 5 + 3); have g5 := hcb.frozen ((n + 1) * 5 + 4); have hne : ¬ b = g := (fun e => by rw [e] at hb3w; exact absurd (Nat.lt_of_lt_of_le hb3w.out hgl) (Nat.lt_irrefl _)); have hne' : ¬ g = b := fun h => hne h.symm; clear hcb ho4 hown' hgrow hcl hcm hgl hgh hb4 hi hz0 hz1 hz2x)
    have hgw : w.heap.size ≤ g := Nat.le_trans hz3'.out hgl'.out
    have h1 := hCB.out.store In.hk n hn' ⟨op', d', a', b1', m'⟩
    have h2 := h1.store In.hk (n + 1) (by rw [List.length_set]; exact hn) ⟨op, d, a, b1, m⟩
    have hle : ((es.set n (⟨op', d', a', b1', m'⟩ : In)).set (n + 1) ⟨op, d, a, b1, m⟩).length = es.length := by rw [List.length_set, List.length_set]
    have h3 := OK.close (lo := w.heap.size) In.hk h2 hgw (CB.lt h2) (by rw [hle]; exact hlc) hcm'.out (by have hcl := hcl'.out; rw [List.length_append, kflat_len In.hk, hle]; rw [List.length_append, kflat_len In.hk] at hcl; exact hcl)
    have hfin := Lib.hid h3
    have hle' := Lib.hid hle
    have hbf := Lib.hid (below_setCells (In.enc ⟨op, d, a, b1, m⟩) g ((n + 1) * 5) (below_setCells (In.enc ⟨op', d', a', b1', m'⟩) g (n * 5) hbb4.out hgw) hgw)
    clear h1 h2 h3 hle
    simp only [setCells, In.enc, Nat.add_assoc, Nat.reduceAdd] at hfin hbf
    clear c1 c2 c3 c4 c5 d1 d2 d3 d4 d5 p1 p2 p3 p4 p5 q1 q2 q3 q4 q5 f1 f2 f3 f4 f5 g1 g2 g3 g4 g5 hCB
    generalize (World.setCell _ _ _) = W at hfin hbf ⊢
    generalize ((es.set n (⟨op', d', a', b1', m'⟩ : In)).set (n + 1) ⟨op, d, a, b1, m⟩) = Z at *
    go_ret2
    rw [hR.out, hK.out]
    refine ⟨some ⟨g, 0, none⟩, cap, by rw [hle'.out]; rfl, ?_, ?_⟩
    · exact hfin.out
    · first | exact hbf.out | exact hbf.out.drew

theorem vaGood_any (L B : Nat) (A : Option Addr) (c : Nat) (es : List In) (w : World) (hl : es.length ≤ 1048576) (hes : RS In.enc 5 w L B A es) (hB : B ≤ w.heap.size) :
    Calls Try.prog 79 #[.slice A es.length c] w fun e w' => e = .returned (.bool (blkOk es)) ∧ Below w.heap.size w w' := by
  have H := Lib.hid (cdCode_any L B A c es w hl hes hB)
  have hk : Hid (blkOk es = (decide (es.length ≤ 20) && okCode es)) := rfl
  have b0 := Lib.hid (Below.refl w.heap.size w)
  clear hes
  generalize blkOk es = r at *
  generalize okCode es = q at *
  by_cases h20 : es.length ≤ 20
  · have h1 : (es.length : Int) ≤ 20 := by omega
    have h2 : decide (es.length ≤ 20) = true := decide_eq_true h20
    rw [h2] at hk
    clear h2
    go_enter Try.func79, Try.ntmps79
    go_wp2_with (fail)
    refine H.out.mono ?_
    rintro e w1 ⟨rfl, hb⟩
    have hbh := Lib.hid hb
    clear hb
    go_wp2
    go_ret
    exact ⟨by rw [hk.out]; rfl, hbh.out⟩
  · have h1 : ¬ (es.length : Int) ≤ 20 := by omega
    have h2 : decide (es.length ≤ 20) = false := decide_eq_false h20
    rw [h2] at hk
    clear h2
    go_enter Try.func79, Try.ntmps79
    go_wp2
    go_ret
    exact ⟨by rw [hk.out]; rfl, b0.out⟩
end Go.Proofs.Ythjfedidpjfboaa

/- vaEnds, vaWitness of the model. -/
namespace Go.Proofs.Ythjfedidpjfboaa
open Go.RowKit
set_option linter.unusedVariables false
set_option maxRecDepth 100000

def endsL (es : List In) (n : Nat) : List (List Int) := (List.range n).map (endR es)
theorem endsL_len (es : List In) (n : Nat) : (endsL es n).length = n := by simp [endsL]
theorem endsL_succ (es : List In) (n : Nat) : endsL es (n + 1) = endsL es n ++ [endR es n] := by unfold endsL; rw [List.range_succ, List.map_append]; rfl
theorem endsL_at {es : List In} {n k : Nat} (h : k < (endsL es n).length) : (endsL es n)[k] = endR es k := by simp [endsL]
theorem start6_of {a b : Nat} (ha : a ≤ 63) (hb : b ≤ 63) : start6 (64 * a + b) = [(a : Int), (b : Int), 0, 0, 0, 0] := by
  unfold start6
  have h1 : ((64 * a + b : Nat) : Int) / 64 = (a : Int) := by omega
  have h2 : ((64 * a + b : Nat) : Int) % 64 = (b : Int) := by omega
  rw [h1, h2]
theorem endR_words {es : List In} (h : okCode es = true) {i : Nat} (hi : i < 4096) : words6 (endR es i) := runL_words (okCode_all h) (start6_words hi)
def EndsGot (w : World) (es : List In) (e : Ending) (w' : World) : Prop := ∃ A0 c0, e = .returned (.slice A0 4096 c0) ∧ OX w' w.heap.size w'.heap.size (.slice A0 4096 c0) (endsL es 4096) ∧ Below w.heap.size w w'

set_option maxHeartbeats 8000000 in
theorem vaEnds_any (L B : Nat) (A : Option Addr) (c : Nat) (es : List In) (w : World) (hok : okCode es = true) (hes : RS In.enc 5 w L B A es) (hB : B ≤ w.heap.size) :
    Calls Try.prog 120 #[.slice A es.length c] w (EndsGot w es) := by
  obtain ⟨i0, hi', hz0', hz1', hz2'⟩ := info_parts Try.infoII
  have hJ0 := Lib.hid hi'
  have hJ1 := Lib.hid hz0'
  have hJ2 := Lib.hid hz1'
  have hJ3 := Lib.hid hz2'
  clear hi' hz0' hz1' hz2'
  have hF : Hid (∀ n, endsL es (n + 1) = endsL es n ++ [endR es n]) := endsL_succ es
  have hFl : Hid (∀ n, (endsL es n).length = n) := endsL_len es
  have hF0 : Hid (endsL es 0 = []) := rfl
  have hFin : Hid (EndsGot w es = fun e w' => ∃ A0 c0, e = .returned (.slice A0 4096 c0) ∧ OX w' w.heap.size w'.heap.size (.slice A0 4096 c0) (endsL es 4096) ∧ Below w.heap.size w w') := rfl
  rw [hFin.out]
  clear hFin
  have hSt := Lib.hid cdStart_any
  have hRun := Lib.hid fun (a b : Nat) (ha : a ≤ 63) (hb : b ≤ 63) (g : Nat) (W : World) (hW : Below w.heap.size w W) (hI : IB W g 3 [(a : Int), (b : Int), 0, 0, 0, 0]) => (show Calls Try.prog 112 #[.slice A es.length c, .slice (some ⟨g, 0, none⟩) 6 6] W (Own6 W (endR es (64 * a + b))) from by
    have h := cdRun_any L B A c es g 0 6 (start6 (64 * a + b)) g (g + 1) W hok (hes.below hW hB) (Nat.le_trans hB hW.size) (start6_words (by omega)) (by rw [start6_of ha hb]; exact hI.toIS) hI.lt
    exact h)
  have h6 := Lib.hid fun (i : Nat) (hi : i < 4096) => (endR_words hok hi).1
  clear hok hes hB
  generalize endsL es = F at *
  generalize endR es = E at *
  go_enter Try.func120, Try.ntmps120
  go_wp2
  go_loopw [3, 4] (fun v i wr => ∃ a : Nat, a ≤ 64 ∧ i = .int .i64 a ∧ OX wr w.heap.size wr.heap.size v (F (64 * a)) ∧ Below w.heap.size w wr) (fun _ i _ => 64 - (intOf i).toNat)
  case atStart => exact ⟨0, by omega, rfl, by rw [Nat.mul_zero, hF0.out]; exact OX.nil _ _ _, Below.refl _ _⟩
  case round =>
    obtain ⟨a, ha, rfl, hox, hbel⟩ := hrel
    obtain ⟨A5, c5, rfl⟩ := hox.form
    have hX := Lib.hid hox
    have hBL := Lib.hid hbel
    clear hox hbel
    by_cases hlt : a ≤ 63
    · have hai : (a : Int) ≤ 63 := by omega
      obtain ⟨wo, hwo⟩ : ∃ wo : World, wo = wr := ⟨_, rfl⟩
      rw [← hwo] at hX hBL ⊢
      clear hwo
      go_wp2
      go_loopw [3, 5] (fun v i wr => ∃ b : Nat, b ≤ 64 ∧ i = .int .i64 b ∧ OX wr w.heap.size wr.heap.size v (F (64 * a + b)) ∧ Below w.heap.size w wr) (fun _ i _ => 64 - (intOf i).toNat)
      case atStart => exact ⟨0, by omega, rfl, by rw [Nat.add_zero]; exact hX.out, hBL.out⟩
      case round =>
        obtain ⟨b, hb, rfl, hox, hbel⟩ := hrel
        obtain ⟨A6, c6, rfl⟩ := hox.form
        have hX6 := Lib.hid hox
        have hB6 := Lib.hid hbel
        clear hox hbel
        by_cases hltb : b ≤ 63
        · have hbi : (b : Int) ≤ 63 := by omega
          have hFs := Lib.hid (hF.out (64 * a + b))
          have hFn := Lib.hid (hFl.out (64 * a + b))
          have h6n := h6.out (64 * a + b) (by omega)
          obtain ⟨n, hn⟩ : ∃ n, n = 64 * a + b := ⟨_, rfl⟩
          have hnN := Lib.hid hn
          have hn4 : n < 4096 := by omega
          rw [hFn.out] at hX6 ⊢
          rw [← hn] at hX6 hFs h6n ⊢
          have hRn := Lib.hid fun (g : Nat) (W : World) (hW : Below w.heap.size w W) (hI : IB W g 3 [(a : Int), (b : Int), 0, 0, 0, 0]) => hRun.out a b hlt hltb g W hW hI
          rw [← hn] at hRn
          have hH6 := Lib.hid h6n
          have hFn1 : Hid (64 * a + (b + 1) = n + 1) := by rw [Hid, hn]; omega
          clear hn h6n hFn
          generalize hFF : F (n + 1) = Fn at *
          have hFFh := Lib.hid hFF
          clear hFF
          generalize F n = Fk at *
          go_wp2_with (first
            | (go_at_call 113; refine (hSt.out _ _ _).mono ?_; rintro e w1 ⟨rfl, hib, hb1⟩; have hIB := Lib.hid hib; have hB1 := Lib.hid hb1; clear hib hb1)
            | (go_at_call 112; refine (hRn.out _ w1 (hB6.out.trans (hB1.out.mono hB6.out.size)) hIB.out).mono ?_; rintro e w2 ⟨g2, c2, rfl, hg2, ho2, hb2⟩; have hW2 := hB1.out.trans (hb2.mono hB1.out.size); have hO2 := (ho2.lower (Nat.le_trans hB1.out.size hg2)).more (ho2.1.lt g2 rfl).2; obtain ⟨vs, hvn, HL, HN, H1, HK, Hlo⟩ := snocX hX6.out hB6.out.size hW2 hO2; have hB2 := Lib.hid (hB6.out.trans (hW2.mono hB6.out.size)); have HL := Lib.hid HL; have HN := Lib.hid HN; have H1 := Lib.hid H1; have HK := Lib.hid HK; have Hlo := Lib.hid Hlo; clear ho2 hb2 hW2 hO2 hg2)
            | (at_builtin; go_loud (refine wpList_append_own _ rfl _ _ 48 rfl w.heap.size 32 i0 _ 1 24 Try.underlying48 hJ0.out hJ1.out hJ2.out hJ3.out rfl (by decide) _ n _ rfl HL.out ⟨w2.heap.size, 0, none⟩ 1 1 _ rfl rfl HN.out H1.out (by unfold maxLen; omega) (by omega) (by have := hB2.out.size; simp; omega) ?_); intro v' w7 hown7 hgr7 _; obtain ⟨g7, c7, rfl⟩ := ownsRow_succ hown7; have hX7 := Lib.hid (HK.out g7 c7 w7 hown7 hgr7); have hB7 := Lib.hid ((hB2.out.alloc hB2.out.size (.cells #[.slice (some ⟨g2, 0, none⟩) 6 c2] 32)).grown hgr7 (by have := hB2.out.size; simp; omega) (fun j hj => Hlo.out j hj)); clear hown7 hgr7))
          go_roundw
          case rel => exact ⟨b + 1, by omega, by go_num, by rw [hFn1.out, hFFh.out, hFs.out]; exact hX7.out, hB7.out⟩
          case measure => simp [intOf]; omega
        · obtain rfl : b = 64 := by omega
          go_wp2
          go_roundw
          case rel => exact ⟨a + 1, by omega, by go_num, hX6.out, hB6.out⟩
          case measure => simp [intOf]; omega
    · obtain rfl : a = 64 := by omega
      rw [hFl.out] at hX ⊢
      go_wp2
      go_ret
      exact ⟨A5, c5, rfl, hX.out, hBL.out⟩
end Go.Proofs.Ythjfedidpjfboaa

/- vaWitness of the model. -/
namespace Go.Proofs.Ythjfedidpjfboaa
open Go.RowKit
set_option linter.unusedVariables false
set_option maxRecDepth 100000

theorem ends_at {w : World} {L B k : Nat} {A : Option Addr} {es : List In} (h : XS w L B A (endsL es 4096)) (hB : B ≤ w.heap.size) (hk : k < 4096) (h6 : (endR es k).length = 6) :
    ∃ b o p q c, A = some ⟨b, o, none⟩ ∧ (∀ W, Below w.heap.size w W → W.cell? ⟨b, o + k, none⟩ = some (.slice (some ⟨p, q, none⟩) 6 c)) ∧ ∀ W, Below w.heap.size w W → ∀ n, n < 6 → W.cell? ⟨p, q + n, none⟩ = some (.int .i64 ((endR es k).getD n 0)) := by
  obtain ⟨b, o, Ai, ci, rfl, hb, hc, hI⟩ := h.at (i := k) (by rw [endsL_len]; exact hk)
  rw [endsL_at, h6] at hc
  rw [endsL_at] at hI
  obtain ⟨p, q, rfl, ⟨_, hp⟩, hs⟩ := hI.six h6
  exact ⟨b, o, p, q, ci, rfl, fun W hW => (hW.cell (p := ⟨b, o + k, none⟩) (by show b < w.heap.size; omega)).trans hc, fun W hW n hn => (hW.cell (p := ⟨p, q + n, none⟩) (by show p < w.heap.size; omega)).trans (hs n hn)⟩
def WitGot2 (w : World) (o : Option (Nat × Int)) (e : Ending) (w' : World) : Prop := ∃ A c, e = .returned (.tuple #[.slice A (wtL o).length c, .bool o.isSome]) ∧ OW w' w.heap.size w'.heap.size (.slice A (wtL o).length c) (wtL o) ∧ Below w.heap.size w w'

set_option maxHeartbeats 4000000 in
theorem vaWitness_any (ea eb : List In) (LA BA LB BB : Nat) (AA AB : Option Addr) (cA cB : Nat) (L B : Nat) (A : Option Addr) (c : Nat) (out : List Int) (w : World) (hl : out.length ≤ 1048576) (hin : ∀ r ∈ out, In6 r) (h6a : ∀ k, k < 4096 → (endR ea k).length = 6) (h6b : ∀ k, k < 4096 → (endR eb k).length = 6)
    (hA : XS w LA BA AA (endsL ea 4096)) (hBA : BA ≤ w.heap.size) (hBm : XS w LB BB AB (endsL eb 4096)) (hBB : BB ≤ w.heap.size) (hx : IS w L B A out) (hB : B ≤ w.heap.size) :
    Calls Try.prog 119 #[.slice AA 4096 cA, .slice AB 4096 cB, .slice A out.length c] w (WitGot2 w (wtS 4096 (endR ea) (endR eb) out)) := by
  have hXA := Lib.hid fun (k : Nat) (hk : k < 4096) => ends_at hA hBA hk (h6a k hk)
  have hXB := Lib.hid fun (k : Nat) (hk : k < 4096) => ends_at hBm hBB hk (h6b k hk)
  have hX := Lib.hid fun (W : World) (hW : Below w.heap.size w W) => hx.below hW hB
  have hI := Lib.hid hin
  generalize hRA : endR ea = RA at *
  generalize hRB : endR eb = RB at *
  clear hRA hRB
  have hNone : Hid ((∀ i, i < 4096 → wt2 (RA i) (RB i) out = none) → wtS 4096 RA RB out = none) := fun h => wtS_none h
  have hSome : Hid (∀ (k : Nat) (r : Int), k < 4096 → wt2 (RA k) (RB k) out = some r → (∀ i, i < k → wt2 (RA i) (RB i) out = none) → wtS 4096 RA RB out = some (k, r)) := fun k r h1 h2 h3 => wtS_some h1 h2 h3
  clear hA hBm hx hB hin hBA hBB h6a h6b
  generalize wtS 4096 RA RB out = O at *
  go_enter Try.func119, Try.ntmps119
  go_wp2
  go_loopw [14] (fun i wr => ∃ k : Nat, k ≤ 4096 ∧ i = .int .i64 k ∧ (∀ i, i < k → wt2 (RA i) (RB i) out = none) ∧ Below w.heap.size w wr) (fun i _ => 4096 - (intOf i).toNat)
  case atStart => exact ⟨0, by omega, rfl, fun i hi => by omega, Below.refl _ _⟩
  case round =>
    obtain ⟨k, hk, rfl, hno, hbel⟩ := hrel
    have hNo := Lib.hid hno
    have hBL := Lib.hid hbel
    clear hno
    by_cases hlt : k < 4096
    · have hki : (k : Int) < 4096 := by omega
      have hk0 : (0 : Int) ≤ (k : Int) := by omega
      obtain ⟨ab, ao, ap, aq, ac, rfl, xa, xan⟩ := hXA.out k hlt
      obtain ⟨bb, bo, bp, bq, bc, rfl, xb', xbn⟩ := hXB.out k hlt
      have hAn := Lib.hid xan
      have hBc := Lib.hid xb'
      have hBn := Lib.hid xbn
      have xa0 := xa wr hbel
      clear xa xan xb' xbn hbel
      obtain ⟨wo, hwo⟩ : ∃ wo : World, wo = wr := ⟨_, rfl⟩
      rw [← hwo] at hBL xa0 ⊢
      clear hwo
      go_wp2
      clear xa0
      go_loopw [21] (fun q wr => ∃ j : Nat, j ≤ out.length ∧ q = .int .i64 j ∧ (∀ i, i < j → (RA k).getD (out.getD i 0).toNat 0 = (RB k).getD (out.getD i 0).toNat 0) ∧ Below w.heap.size w wr) (fun q _ => out.length - (intOf q).toNat)
      case atStart => exact ⟨0, Nat.zero_le _, rfl, fun i hi => by omega, hBL.out⟩
      case round =>
        obtain ⟨j, hj, rfl, hnj, hbel⟩ := hrel
        have hNj := Lib.hid hnj
        have hBj := Lib.hid hbel
        clear hnj
        by_cases hlj : j < out.length
        · obtain ⟨xb, xo, rfl, _, hc⟩ := (hX.out _ hbel) (by omega)
          have y1 := hc j hlj
          have hri := hI.out out[j] (List.getElem_mem hlj)
          have hgd : Hid (out.getD j 0 = out[j]) := by rw [Hid, List.getD_eq_getElem?_getD, List.getElem?_eq_getElem hlj]; rfl
          have hW2 : Hid ((RA k).getD out[j].toNat 0 ≠ (RB k).getD out[j].toNat 0 → wt2 (RA k) (RB k) out = some out[j]) := fun h => wt2_some hlj h hNj.out
          generalize out[j] = r at *
          unfold In6 at hri
          obtain ⟨n, rfl⟩ := Int.eq_ofNat_of_zero_le hri.1
          rw [Int.toNat_natCast] at hW2
          have hn6 : n < 6 := by omega
          have hn6i : (n : Int) < 6 := by omega
          have hn0 : (0 : Int) ≤ (n : Int) := by omega
          have ca := hAn.out wr hbel n hn6
          have cb0 := hBc.out wr hbel
          have cb := hBn.out wr hbel n hn6
          have hSj : Hid ((RA k).getD n 0 = (RB k).getD n 0 → ∀ i, i < j + 1 → (RA k).getD (out.getD i 0).toNat 0 = (RB k).getD (out.getD i 0).toNat 0) := fun h i hi => by
            by_cases e : i = j
            · subst e; rw [hgd.out, Int.toNat_natCast]; exact h
            · exact hNj.out i (by omega)
          clear hc hbel hri
          generalize (RA k).getD n 0 = ya at *
          generalize (RB k).getD n 0 = yb at *
          by_cases hy : ya = yb
          · have hq : (ya != yb) = false := by simpa using hy
            have hS2 := Lib.hid (hSj.out hy)
            clear hy hW2
            go_wp2_with (fail)
            go_quiet (fail)
            all_goals go_wp2
            all_goals go_roundw
            case rel => exact ⟨j + 1, by omega, by go_num, hS2.out, below_drewN hBj.out _⟩
            case measure => simp [intOf]; omega
          · have hq : (ya != yb) = true := by simpa using hy
            have hO := Lib.hid (hSome.out k _ hlt (hW2.out hy) hNo.out)
            have h1 : wrap64 ((k : Int) / 64) = (k : Int) / 64 := by unfold wrap64; omega
            clear hy hW2 hSj
            go_wp2_with (fail)
            go_quiet (fail)
            all_goals
              have hBd := Lib.hid (below_drewN hBj.out nq)
              generalize wr.drewN nq = W6 at *
              have hnew : IB (W6.alloc (.cells #[.int .i64 ((k : Int) / 64), .int .i64 ((k : Int) % 64), .int .i64 (n : Int)] 3)) W6.heap.size 3 [(k : Int) / 64, (k : Int) % 64, (n : Int)] := heap_alloc_new W6 _
              have hOW := Lib.hid (OW.ofIB hnew (by simp) (Nat.le_trans hBd.out.size (Nat.le_refl _)) (by simp) : OW _ w.heap.size (W6.alloc (.cells #[.int .i64 ((k : Int) / 64), .int .i64 ((k : Int) % 64), .int .i64 (n : Int)] 3)).heap.size _ _)
              have hB8 := Lib.hid (hBd.out.alloc hBd.out.size (.cells #[.int .i64 ((k : Int) / 64), .int .i64 ((k : Int) % 64), .int .i64 (n : Int)] 3))
              clear hnew ca cb0 cb y1
              go_wp2
              go_ret2
              rw [hO.out]
              exact ⟨_, 3, rfl, hOW.out, hB8.out⟩
        · obtain rfl : j = out.length := by omega
          have hNk := Lib.hid (show ∀ i, i < k + 1 → wt2 (RA i) (RB i) out = none from fun i hi => by
            by_cases e : i = k
            · subst e; exact wt2_none hNj.out
            · exact hNo.out i (by omega))
          clear hbel
          go_wp2
          go_roundw
          case rel => exact ⟨k + 1, by omega, by go_num, hNk.out, hBj.out⟩
          case measure => simp [intOf]; omega
    · obtain rfl : k = 4096 := by omega
      have hO := Lib.hid (hNone.out hNo.out)
      clear hbel
      go_wp2
      go_ret2
      rw [hO.out]
      exact ⟨none, 0, rfl, OW.nil _ _ _, hBL.out⟩
end Go.Proofs.Ythjfedidpjfboaa

/- AreSameBlocks, BlockWitness: both as the law takes them. -/
namespace Go.Proofs.Ythjfedidpjfboaa
open Go.RowKit
set_option linter.unusedVariables false
set_option maxRecDepth 100000

def asOk (a b : List In) (out : List Int) : Bool := blkOk a && blkOk b && riseB out
def wO (a b : List In) (out : List Int) : Option (Nat × Int) := wtS 4096 (endR a) (endR b) out
def asB (a b : List In) (out : List Int) : Bool := asOk a b out && (wO a b out).isNone
def bwL (a b : List In) (out : List Int) : List Int := if asOk a b out = true then wtL (wO a b out) else []
def bwB (a b : List In) (out : List Int) : Bool := asOk a b out && (wO a b out).isSome
theorem bwL_len (a b : List In) (out : List Int) : (bwL a b out).length ≤ 1048576 := by
  unfold bwL; split
  · exact Nat.le_trans (wtL_len _) (by omega)
  · simp
theorem asOk_parts {a b : List In} {out : List Int} (h : asOk a b out = true) : okCode a = true ∧ okCode b = true ∧ ∀ r ∈ out, In6 r := by
  unfold asOk at h; rw [Bool.and_eq_true, Bool.and_eq_true] at h
  exact ⟨(blkOk_parts h.1.1).2, (blkOk_parts h.1.2).2, (rise_bits h.2).1⟩

set_option maxHeartbeats 2000000 in
theorem vaTask_any (L0 B0 : Nat) (A0 : Option Addr) (c0 : Nat) (a : List In) (L1 B1 : Nat) (A1 : Option Addr) (c1 : Nat) (b : List In) (L2 B2 : Nat) (A2 : Option Addr) (c2 : Nat) (out : List Int) (w : World)
    (hl0 : a.length ≤ 1048576) (h0 : RS In.enc 5 w L0 B0 A0 a) (hB0 : B0 ≤ w.heap.size) (hl1 : b.length ≤ 1048576) (h1 : RS In.enc 5 w L1 B1 A1 b) (hB1 : B1 ≤ w.heap.size) (hl2 : out.length ≤ 1048576) (h2 : IS w L2 B2 A2 out) (hB2 : B2 ≤ w.heap.size) :
    Calls Try.prog 118 #[.slice A0 a.length c0, .slice A1 b.length c1, .slice A2 out.length c2] w fun e w' => e = .returned (.bool (asOk a b out)) ∧ Below w.heap.size w w' := by
  have Ha := Lib.hid (vaGood_any L0 B0 A0 c0 a w hl0 h0 hB0)
  have Hb := Lib.hid fun (W : World) (hW : Below w.heap.size w W) => vaGood_any L1 B1 A1 c1 b W hl1 (h1.below hW hB1) (Nat.le_trans hB1 hW.size)
  have Hr := Lib.hid fun (W : World) (hW : Below w.heap.size w W) => cdWanted_any L2 B2 A2 c2 out W hl2 (h2.below hW hB2)
  have hk : Hid (asOk a b out = (blkOk a && blkOk b && riseB out)) := rfl
  clear h0 h1 h2
  generalize asOk a b out = r at *
  generalize blkOk a = qa at *
  generalize blkOk b = qb at *
  generalize riseB out = qr at *
  cases qa
  · go_enter Try.func118, Try.ntmps118
    go_wp2_with (fail)
    refine Ha.out.mono ?_
    rintro e w1 ⟨rfl, hb1⟩
    have hbh := Lib.hid hb1
    clear hb1
    go_wp2
    go_ret
    exact ⟨by rw [hk.out]; rfl, hbh.out⟩
  cases qb
  · go_enter Try.func118, Try.ntmps118
    go_wp2_with (fail)
    refine Ha.out.mono ?_
    rintro e w1 ⟨rfl, hb1⟩
    have hbh := Lib.hid hb1
    clear hb1
    go_wp2_with (fail)
    refine (Hb.out w1 hbh.out).mono ?_
    rintro e w2 ⟨rfl, hb2⟩
    have hbh2 := Lib.hid (hbh.out.trans (hb2.mono hbh.out.size))
    clear hb2
    go_wp2
    go_ret
    exact ⟨by rw [hk.out]; rfl, hbh2.out⟩
  go_enter Try.func118, Try.ntmps118
  go_wp2_with (fail)
  refine Ha.out.mono ?_
  rintro e w1 ⟨rfl, hb1⟩
  have hbh := Lib.hid hb1
  clear hb1
  go_wp2_with (fail)
  refine (Hb.out w1 hbh.out).mono ?_
  rintro e w2 ⟨rfl, hb2⟩
  have hbh2 := Lib.hid (hbh.out.trans (hb2.mono hbh.out.size))
  clear hb2
  go_wp2_with (fail)
  refine (Hr.out w2 hbh2.out).mono ?_
  rintro e w3 ⟨rfl, rfl⟩
  go_wp2
  go_ret
  exact ⟨by rw [hk.out]; rfl, hbh2.out⟩


set_option maxHeartbeats 4000000 in
theorem sAreSameBlocks_any (L0 B0 : Nat) (A0 : Option Addr) (c0 : Nat) (a : List In) (L1 B1 : Nat) (A1 : Option Addr) (c1 : Nat) (b : List In) (L2 B2 : Nat) (A2 : Option Addr) (c2 : Nat) (out : List Int) (w : World)
    (hl0 : a.length ≤ 1048576) (h0 : RS In.enc 5 w L0 B0 A0 a) (hB0 : B0 ≤ w.heap.size) (hl1 : b.length ≤ 1048576) (h1 : RS In.enc 5 w L1 B1 A1 b) (hB1 : B1 ≤ w.heap.size) (hl2 : out.length ≤ 1048576) (h2 : IS w L2 B2 A2 out) (hB2 : B2 ≤ w.heap.size) :
    Calls Try.prog 55 #[.slice A0 a.length c0, .slice A1 b.length c1, .slice A2 out.length c2] w (ResAreSameBlocks (asB a b out) (asOk a b out) w) := by
  have HT := Lib.hid (vaTask_any L0 B0 A0 c0 a L1 B1 A1 c1 b L2 B2 A2 c2 out w hl0 h0 hB0 hl1 h1 hB1 hl2 h2 hB2)
  have hk : Hid (asB a b out = (asOk a b out && (wO a b out).isNone)) := rfl
  have hP := Lib.hid fun (h : asOk a b out = true) => asOk_parts h
  have HA := Lib.hid fun (W : World) (hW : Below w.heap.size w W) (ho : okCode a = true) => vaEnds_any L0 B0 A0 c0 a W ho (h0.below hW hB0) (Nat.le_trans hB0 hW.size)
  have HB := Lib.hid fun (W : World) (hW : Below w.heap.size w W) (ho : okCode b = true) => vaEnds_any L1 B1 A1 c1 b W ho (h1.below hW hB1) (Nat.le_trans hB1 hW.size)
  have HX := Lib.hid fun (W : World) (hW : Below w.heap.size w W) => h2.below hW hB2
  have HW := Lib.hid fun (AA AB : Option Addr) (cA cB L L' X X' : Nat) (W : World) (hW : Below w.heap.size w W) (hin : ∀ r ∈ out, In6 r) (oa : okCode a = true) (ob : okCode b = true) (ha : XS W L X AA (endsL a 4096)) (hX : X ≤ W.heap.size) (hb : XS W L' X' AB (endsL b 4096)) (hX' : X' ≤ W.heap.size) => (show Calls Try.prog 119 #[.slice AA 4096 cA, .slice AB 4096 cB, .slice A2 out.length c2] W (WitGot2 W (wO a b out)) from vaWitness_any a b L X L' X' AA AB cA cB L2 B2 A2 c2 out W hl2 hin (fun k hk => (endR_words oa hk).1) (fun k hk => (endR_words ob hk).1) ha hX hb hX' (h2.below hW hB2) (Nat.le_trans hB2 hW.size))
  clear h0 h1 h2
  generalize asB a b out = R at *
  generalize wO a b out = O at *
  generalize asOk a b out = q at *
  cases q
  · go_enter Try.func55, Try.ntmps55
    go_wp2_with (fail)
    refine HT.out.mono ?_
    rintro e w1 ⟨rfl, hb1⟩
    have hbh := Lib.hid hb1
    clear hb1
    go_wp2
    go_ret2
    exact ⟨by rw [hk.out]; rfl, hbh.out⟩
  obtain ⟨oa, ob, hin⟩ := hP.out rfl
  have hOa := Lib.hid oa
  have hOb := Lib.hid ob
  have hIn := Lib.hid hin
  clear oa ob hin
  go_enter Try.func55, Try.ntmps55
  go_wp2_with (fail)
  refine HT.out.mono ?_
  rintro e w1 ⟨rfl, hb1⟩
  have b1 := Lib.hid hb1
  clear hb1
  go_wp2_with (fail)
  refine (HA.out w1 b1.out hOa.out).mono ?_
  rintro e w2 ⟨Ap, cp, rfl, hox, hb2⟩
  have X2 := Lib.hid hox
  have b2 := Lib.hid (b1.out.trans (hb2.mono b1.out.size))
  clear hox hb2
  go_wp2_with (fail)
  refine (HB.out w2 b2.out hOb.out).mono ?_
  rintro e w3 ⟨Aq, cq, rfl, hox, hb3⟩
  have X3 := Lib.hid hox
  have X2' := Lib.hid (X2.out.below hb3 (Nat.le_refl _))
  have b3 := Lib.hid (b2.out.trans (hb3.mono b2.out.size))
  have z3 := hb3.size
  clear hox hb3
  go_wp2_with (fail)
  refine (HW.out Ap Aq cp cq _ _ _ _ w3 b3.out hIn.out hOa.out hOb.out (OX.rs X2'.out) z3 (OX.rs X3.out) (Nat.le_refl _)).mono ?_
  rintro e w4 ⟨Ar, cr, rfl, ho, hb4⟩
  have b4 := Lib.hid (b3.out.trans (hb4.mono b3.out.size))
  clear ho hb4
  cases O
  · dsimp only [Option.isSome_none]
    go_wp2
    go_ret2
    exact ⟨by rw [hk.out]; rfl, b4.out⟩
  · dsimp only [Option.isSome_some]
    go_wp2
    go_ret2
    exact ⟨by rw [hk.out]; rfl, b4.out⟩

set_option maxHeartbeats 4000000 in
theorem sBlockWitness_any (L0 B0 : Nat) (A0 : Option Addr) (c0 : Nat) (a : List In) (L1 B1 : Nat) (A1 : Option Addr) (c1 : Nat) (b : List In) (L2 B2 : Nat) (A2 : Option Addr) (c2 : Nat) (out : List Int) (w : World)
    (hl0 : a.length ≤ 1048576) (h0 : RS In.enc 5 w L0 B0 A0 a) (hB0 : B0 ≤ w.heap.size) (hl1 : b.length ≤ 1048576) (h1 : RS In.enc 5 w L1 B1 A1 b) (hB1 : B1 ≤ w.heap.size) (hl2 : out.length ≤ 1048576) (h2 : IS w L2 B2 A2 out) (hB2 : B2 ≤ w.heap.size) :
    Calls Try.prog 61 #[.slice A0 a.length c0, .slice A1 b.length c1, .slice A2 out.length c2] w (ResBlockWitness (bwL a b out) (bwB a b out) w) := by
  have HT := Lib.hid (vaTask_any L0 B0 A0 c0 a L1 B1 A1 c1 b L2 B2 A2 c2 out w hl0 h0 hB0 hl1 h1 hB1 hl2 h2 hB2)
  have hk : Hid (bwL a b out = if asOk a b out = true then wtL (wO a b out) else []) := rfl
  have hk2 : Hid (bwB a b out = (asOk a b out && (wO a b out).isSome)) := rfl
  have hP := Lib.hid fun (h : asOk a b out = true) => asOk_parts h
  have HA := Lib.hid fun (W : World) (hW : Below w.heap.size w W) (ho : okCode a = true) => vaEnds_any L0 B0 A0 c0 a W ho (h0.below hW hB0) (Nat.le_trans hB0 hW.size)
  have HB := Lib.hid fun (W : World) (hW : Below w.heap.size w W) (ho : okCode b = true) => vaEnds_any L1 B1 A1 c1 b W ho (h1.below hW hB1) (Nat.le_trans hB1 hW.size)
  have HX := Lib.hid fun (W : World) (hW : Below w.heap.size w W) => h2.below hW hB2
  have HW := Lib.hid fun (AA AB : Option Addr) (cA cB L L' X X' : Nat) (W : World) (hW : Below w.heap.size w W) (hin : ∀ r ∈ out, In6 r) (oa : okCode a = true) (ob : okCode b = true) (ha : XS W L X AA (endsL a 4096)) (hX : X ≤ W.heap.size) (hb : XS W L' X' AB (endsL b 4096)) (hX' : X' ≤ W.heap.size) => (show Calls Try.prog 119 #[.slice AA 4096 cA, .slice AB 4096 cB, .slice A2 out.length c2] W (WitGot2 W (wO a b out)) from vaWitness_any a b L X L' X' AA AB cA cB L2 B2 A2 c2 out W hl2 hin (fun k hk => (endR_words oa hk).1) (fun k hk => (endR_words ob hk).1) ha hX hb hX' (h2.below hW hB2) (Nat.le_trans hB2 hW.size))
  clear h0 h1 h2
  generalize bwL a b out = R at *
  generalize bwB a b out = R2 at *
  generalize wO a b out = O at *
  generalize asOk a b out = q at *
  cases q
  · go_enter Try.func61, Try.ntmps61
    go_wp2_with (fail)
    refine HT.out.mono ?_
    rintro e w1 ⟨rfl, hb1⟩
    have hbh := Lib.hid hb1
    clear hb1
    go_wp2
    go_ret2
    rw [hk.out, hk2.out]
    exact ⟨none, 0, rfl, OW.nil _ _ _, hbh.out⟩
  obtain ⟨oa, ob, hin⟩ := hP.out rfl
  have hOa := Lib.hid oa
  have hOb := Lib.hid ob
  have hIn := Lib.hid hin
  clear oa ob hin
  go_enter Try.func61, Try.ntmps61
  go_wp2_with (fail)
  refine HT.out.mono ?_
  rintro e w1 ⟨rfl, hb1⟩
  have b1 := Lib.hid hb1
  clear hb1
  go_wp2_with (fail)
  refine (HA.out w1 b1.out hOa.out).mono ?_
  rintro e w2 ⟨Ap, cp, rfl, hox, hb2⟩
  have X2 := Lib.hid hox
  have b2 := Lib.hid (b1.out.trans (hb2.mono b1.out.size))
  clear hox hb2
  go_wp2_with (fail)
  refine (HB.out w2 b2.out hOb.out).mono ?_
  rintro e w3 ⟨Aq, cq, rfl, hox, hb3⟩
  have X3 := Lib.hid hox
  have X2' := Lib.hid (X2.out.below hb3 (Nat.le_refl _))
  have b3 := Lib.hid (b2.out.trans (hb3.mono b2.out.size))
  have z3 := hb3.size
  clear hox hb3
  go_wp2_with (fail)
  refine (HW.out Ap Aq cp cq _ _ _ _ w3 b3.out hIn.out hOa.out hOb.out (OX.rs X2'.out) z3 (OX.rs X3.out) (Nat.le_refl _)).mono ?_
  rintro e w4 ⟨Ar, cr, rfl, ho, hb4⟩
  have b4 := Lib.hid (b3.out.trans (hb4.mono b3.out.size))
  have O4 := Lib.hid ((ho.lower b3.out.size))
  clear ho hb4
  go_wp2
  go_ret2
  rw [hk.out, hk2.out]
  exact ⟨Ar, cr, rfl, O4.out, b4.out⟩

end Go.Proofs.Ythjfedidpjfboaa
