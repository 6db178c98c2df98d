/- Texts of this proof, one behind the other: AU, AN, AR. -/
import Derived.Test.YtgcbfiamhpfkhaaZ7
import Derived.Test.YtgcbfiamhpfkhaaZ4
import Derived.RangeFuncNested
import Derived.RangeFuncBound
import Derived.RangeFuncCalls
import Derived.RangeFuncLeaves
import Derived.RangeFuncBox
import Derived.Shelf.Abstract
import Derived.Shelf.RegionOpen
import Derived.WalkKit
import Derived.OwnWalkIn
import Derived.TacticsInMore
import Derived.LoopNIn
import Derived.LoopIn
import Derived.Lib.Hide
import Derived.Test.YtgcbfiamhpfkhaaLI
import Derived.Test.YtgcbfiamhpfkhaaKNode
import Derived.Test.YtgcbfiamhpfkhaaKMNode
import Derived.WalkSpells
import Derived.WalkLawsBesides
import Derived.Test.YtgcbfiamhpfkhaaZ5
import Derived.Deep.RegionHeld3
import Derived.Test.YtgcbfiamhpfkhaaZ21

/- LargestCover of the program. -/
namespace Go.Proofs.Ytgcbfiamhpfkhaa
open Go.RowKit
set_option linter.unusedVariables false
set_option maxRecDepth 100000

set_option maxHeartbeats 4000000 in
theorem iLargestCover_any (L B : Nat) (A : Option Addr) (c : Nat) (es : List Nd) (w : World) (hl : es.length ≤ 1048576) (hes : NS w L B A es) (hB : B ≤ w.heap.size) :
    Calls Try.prog 29 #[.slice A es.length c] w (IntsRes w (largeR es) (treeR es)) := by
  have H := Lib.hid (iIsTree_any L B A c es w hl hes hB)
  have H3 := Lib.hid fun (ht : treeR es = true) (W : World) (hW : Below w.heap.size w W) => chosenG_any L B A c es W ht (hes.below hW hB) (Nat.le_trans hB hW.size)
  clear hes hB
  cases ht : treeR es
  · have hR := Lib.hid (show largeR es = [] by unfold largeR; rw [if_neg (by rw [ht]; simp)])
    rw [ht] at H
    clear ht H3
    go_enter Try.func29, Try.ntmps29
    go_wp2_with (go_at_call 57; refine H.out.mono ?_; rintro e w1 ⟨rfl, hb1⟩; have hbh := Lib.hid hb1; clear hb1)
    go_ret2
    rw [hR.out]
    exact ⟨none, 0, rfl, OW.nil _ _ _, hbh.out⟩
  have hR := Lib.hid (show largeR es = chR es.length (chE kG es) by unfold largeR; rw [if_pos ht])
  rw [ht] at H
  have H3' := Lib.hid (H3.out ht)
  have hl24 := tree_len ht
  clear ht H3
  have hcl := Lib.hid (chR_len es.length (chE kG es))
  generalize largeR es = R at *
  generalize chR es.length (chE kG es) = P at *
  generalize good es = gd at *
  generalize es.length = n at *
  go_enter Try.func29, Try.ntmps29
  go_wp2_with (first | (go_at_call 57; refine H.out.mono ?_; rintro e w1 ⟨rfl, hb1⟩; have hbh := Lib.hid hb1; clear hb1) | (go_at_call 66; refine (H3'.out _ hbh.out).mono ?_; rintro e w3 ⟨g, rfl, hgw, hib, hb3⟩; have hO := Lib.hid (OW.ofIB' (lo := w.heap.size) (hi := w3.heap.size) hib (by rw [hcl.out]; omega) (by have := hbh.out.size; omega) hib.lt); have hBe := Lib.hid (hbh.out.trans (hb3.mono hbh.out.size)); clear hib hb3 hgw))
  go_ret2
  refine ⟨_, _, ?_, by rw [hR.out]; exact hO.out, hBe.out⟩
  rw [hR.out, hcl.out]; rfl

theorem sLargestCover_k (L B : Nat) (A : Option Addr) (c : Nat) (es : List Nd) (w : World) (hl : es.length ≤ 1048576) (hes : RS Nd.enc 4 w L B A es) (hB : B ≤ w.heap.size) :
    Calls Try.prog 28 #[.slice A es.length c] w (ResLargestCover (largeR es) (treeR es) w) := sLargestCover_any L B A c es w hl hes.ns hB
theorem iLargestCover_k (L B : Nat) (A : Option Addr) (c : Nat) (es : List Nd) (w : World) (hl : es.length ≤ 1048576) (hes : RS Nd.enc 4 w L B A es) (hB : B ≤ w.heap.size) :
    Calls Try.prog 29 #[.slice A es.length c] w (ResLargestCover (largeR es) (treeR es) w) := iLargestCover_any L B A c es w hl hes.ns hB
end Go.Proofs.Ytgcbfiamhpfkhaa

/- slices.MinFunc over tiles. -/
namespace Go.Proofs.Ytgcbfiamhpfkhaa
open Go.RowKit
set_option linter.unusedVariables false
set_option maxRecDepth 100000

theorem TX.chgB {w w' : World} {g lo hi : Nat} {r : Rt} (h : TX w g r) (hc : Chg lo hi w w') (hd : g < lo) : TX w' g r := (hc.block g (CB.lt h) (.inl hd)).trans h
theorem eightB_next {w w' : World} {p0 p1 p2 p3 q0 q1 q2 q3 : Addr} {a0 a1 a2 a3 b0 b1 b2 b3 : Value} (h : w.cell? p0 = some a0 ∧ w.cell? p1 = some a1 ∧ w.cell? p2 = some a2 ∧ w.cell? p3 = some a3 ∧ w.cell? q0 = some b0 ∧ w.cell? q1 = some b1 ∧ w.cell? q2 = some b2 ∧ w.cell? q3 = some b3) (hb : Below w.heap.size w w') :
    w'.cell? p0 = some a0 ∧ w'.cell? p1 = some a1 ∧ w'.cell? p2 = some a2 ∧ w'.cell? p3 = some a3 ∧ w'.cell? q0 = some b0 ∧ w'.cell? q1 = some b1 ∧ w'.cell? q2 = some b2 ∧ w'.cell? q3 = some b3 :=
  have k : ∀ {p : Addr} {u : Value}, w.cell? p = some u → w'.cell? p = some u := fun h => (hb.cell (World.block_lt_of_cell? _ _ h)).trans h
  ⟨k h.1, k h.2.1, k h.2.2.1, k h.2.2.2.1, k h.2.2.2.2.1, k h.2.2.2.2.2.1, k h.2.2.2.2.2.2.1, k h.2.2.2.2.2.2.2⟩
set_option maxHeartbeats 8000000 in
theorem minFuncB_any (L B : Nat) (cb b m n : Nat) (f : Int → Int) (P : List Int) (A : Option Addr) (c : Nat) (rs : List Rt) (ts : List Ti) (w : World) (hl1 : 1 ≤ ts.length) (hl13 : ts.length ≤ 13) (hrs : RS Rt.enc 4 w L B A rs) (hall : AllOk w L B rs ts) (hB : B ≤ w.heap.size) (hps : ∀ x ∈ ts, ∀ p ∈ x.ps, 0 ≤ p ∧ p < (n : Int)) (hp2 : ∀ x ∈ ts, x.ps.length ≤ 2) (hn24 : n ≤ 24) (hm : MP w b m f) (hf : ∀ k : Nat, k < n → f (k : Int) = P.getD k 0) (hcb : BX w cb 69 (.map (some b))) :
    Calls Try.prog 123 #[.slice A rs.length c, .func (.func 67) #[] #[.pointer (some ⟨cb, 0, none⟩)]] w fun e w' => ∃ r : Rt, e = .returned (.agg #[.int .i64 r.num, r.p, r.q, .int .i64 r.c]) ∧ RtOk w' L B r (chK (wcT P) ts) ∧ Below w.heap.size w w' := by
  have hrl : rs.length = ts.length := hall.1
  have HF := Lib.hid fun (rx ry : Rt) (x y : Ti) (hx : x ∈ ts) (hy : y ∈ ts) (W : World) (hW : Below w.heap.size w W) (h1 : RtOk w L B rx x) (h2 : RtOk w L B ry y) => (bestLess_any L B cb b m n f P rx ry x y W (h1.below hW hB) (h2.below hW hB) (Nat.le_trans hB hW.size) (hp2 x hx) (hps x hx) (hp2 y hy) (hps y hy) hn24 (hm.next hW) hf (hcb.next hW)).mono (R' := fun e w' => ∃ d, e = .returned (.int .i64 d) ∧ (d < 0 ↔ wcT P x < wcT P y) ∧ Below W.heap.size W w') fun e w' h => ⟨_, h.1, cmpR_neg _ _, h.2⟩
  have hRS := Lib.hid hrs
  have hAL := Lib.hid hall
  have hz1 := World.size_alloc w (.cells #[.int .i64 0, .slice none 0 0, .slice none 0 0, .int .i64 0] 77)
  have ba := (Below.refl w.heap.size w).alloc (Nat.le_refl _) (.cells #[.int .i64 0, .slice none 0 0, .slice none 0 0, .int .i64 0] 77)
  obtain ⟨tb, to', rfl, ⟨_, htb⟩, hcc⟩ := (hRS.out.below ba hB) (by omega)
  have x1 := hcc 0 (by omega) 0 _ rfl
  have x2 := hcc 0 (by omega) 1 _ rfl
  have x3 := hcc 0 (by omega) 2 _ rfl
  have x4 := hcc 0 (by omega) 3 _ rfl
  simp only [Nat.add_zero, Nat.zero_mul] at x1 x2 x3 x4
  have T0 := Lib.hid (TX.new (w := w) zeroRt rfl)
  have T1 := Lib.hid fun (r : Rt) => TX.new (w := w.alloc (.cells #[.int .i64 0, .slice none 0 0, .slice none 0 0, .int .i64 0] 77)) r hz1
  have b1 := Lib.hid fun (o : Obj) => ba.alloc ba.size o
  have hlr : (rs.length : Int) = (ts.length : Int) := by omega
  have hO0 := Lib.hid (hAL.out.2 0 (by omega) (by omega))
  have hr0 := Lib.hid (show ts[0]'(by omega) = minTo (wcT P) ts 0 from by rw [minTo_zero, getDT (by omega : 0 < ts.length)])
  clear hcc hrs hall
  generalize rs[0]'(by omega) = r0 at *
  generalize ts[0]'(by omega) = t0 at *
  obtain ⟨PA, pc, QA, qc, rfl, _, _⟩ := hO0.out.form
  obtain ⟨xn, ps, ins, xc⟩ := t0
  dsimp only at x1 x2 x3 x4 hO0
  have hgl : ¬ (rs.length : Int) < 1 := by omega
  have hg0 : (0 : Int) < (rs.length : Int) := by omega
  have T1' := Lib.hid (T1.out ⟨xn, .slice PA ps.length pc, .slice QA ins.length qc, xc⟩)
  have b1' := Lib.hid (b1.out (.cells #[.int .i64 xn, .slice PA ps.length pc, .slice QA ins.length qc, .int .i64 xc] 77))
  have T0' : Hid (TX ((w.alloc (.cells #[.int .i64 0, .slice none 0 0, .slice none 0 0, .int .i64 0] 77)).alloc (.cells #[.int .i64 xn, .slice PA ps.length pc, .slice QA ins.length qc, .int .i64 xc] 77)) w.heap.size zeroRt) := CB.below T0.out ((Below.refl _ (w.alloc (.cells #[.int .i64 0, .slice none 0 0, .slice none 0 0, .int .i64 0] 77))).alloc (Nat.le_refl _) (.cells #[.int .i64 xn, .slice PA ps.length pc, .slice QA ins.length qc, .int .i64 xc] 77)) (by rw [hz1]; exact Nat.lt_succ_self _)
  dsimp only at T1'
  clear T0 T1 b1 ba
  go_enter Try.func123, Try.ntmps123
  go_wp2_with (fail)
  generalize (w.alloc (.cells #[.int .i64 0, .slice none 0 0, .slice none 0 0, .int .i64 0] 77)).alloc (.cells #[.int .i64 xn, .slice PA ps.length pc, .slice QA ins.length qc, .int .i64 xc] 77) = W1 at *
  go_loopw [6] (fun u wr => ∃ j : Nat, 1 ≤ j ∧ j ≤ ts.length ∧ u = .int .i64 j ∧ TX wr w.heap.size zeroRt ∧ (∃ r : Rt, TX wr (w.heap.size + 1) r ∧ RtOk w L B r (minTo (wcT P) ts (j - 1))) ∧ Below w.heap.size w wr) (fun u _ => ts.length - (intOf u).toNat)
  case atStart => exact ⟨1, Nat.le_refl _, hl1, rfl, T0'.out, ⟨_, T1'.out, by rw [← hr0.out]; exact hO0.out⟩, b1'.out⟩
  case round =>
    obtain ⟨j, hj1, hj, rfl, hT0, ⟨r, hTr, hOr⟩, hbel⟩ := hrel
    have hBL := Lib.hid hbel
    have hTZ := Lib.hid hT0
    have hTR := Lib.hid hTr
    have hOR := Lib.hid hOr
    clear hbel hT0 hTr hOr
    by_cases hlt : j < ts.length
    · have hjr : j < rs.length := by omega
      obtain ⟨tb, to', e0, ⟨_, htb⟩, hcc⟩ := (hRS.out.below hBL.out hB) (by omega)
      injection e0 with e0
      injection e0 with e1 e2 _
      subst e1; subst e2
      have y1 := hcc j hjr 0 _ rfl
      have y2 := hcc j hjr 1 _ rfl
      have y3 := hcc j hjr 2 _ rfl
      have y4 := hcc j hjr 3 _ rfl
      simp only [Nat.add_zero] at y1
      have hOj := Lib.hid (hAL.out.2 j hjr hlt)
      have hxm : ts[j] ∈ ts := List.getElem_mem _
      have hym : minTo (wcT P) ts (j - 1) ∈ ts := by
        obtain ⟨mi, hmi, _, hme, _, _⟩ := minTo_at (wcT P) ts (j - 1) (by omega)
        rw [hme]; exact List.getElem_mem _
      have hS1 := Lib.hid (show (wcT P) ts[j] < (wcT P) (minTo (wcT P) ts (j - 1)) → minTo (wcT P) ts (j + 1 - 1) = ts[j] from fun h => by
        obtain ⟨p, rfl⟩ : ∃ p, j = p + 1 := ⟨j - 1, by omega⟩
        rw [Nat.add_sub_cancel] at h ⊢
        rw [minTo_less (by rw [getDT hlt]; exact h), getDT hlt])
      have hS2 := Lib.hid (show ¬ (wcT P) ts[j] < (wcT P) (minTo (wcT P) ts (j - 1)) → minTo (wcT P) ts (j + 1 - 1) = minTo (wcT P) ts (j - 1) from fun h => by
        obtain ⟨p, rfl⟩ : ∃ p, j = p + 1 := ⟨j - 1, by omega⟩
        rw [Nat.add_sub_cancel] at h ⊢
        rw [Nat.add_sub_cancel, minTo_keep (by rw [getDT hlt]; exact h)])
      generalize hnn : minTo (wcT P) ts (j + 1 - 1) = yn at *
      have hNN := Lib.hid hnn
      clear hnn
      generalize rs[j] = rj at *
      generalize ts[j] = x at *
      generalize minTo (wcT P) ts (j - 1) = y at *
      have hCL := Lib.hid (HF.out rj r x y hxm hym)
      have hji : (j : Int) < (ts.length : Int) := by omega
      have hj0 : (0 : Int) ≤ (j : Int) := by omega
      have hjh := Lib.hid hlt
      have hzw := hBL.out.size
      have htw : tb < wr.heap.size := by omega
      obtain ⟨PA, pc, QA, qc, rfl, _, _⟩ := hOj.out.form
      obtain ⟨PB, pd, QB, qd, rfl, _, _⟩ := hOR.out.form
      generalize (wcT P) x = kx at *
      generalize (wcT P) y = ky at *
      obtain ⟨xn, xps, xins, xc⟩ := x
      obtain ⟨yn', yps, yins, yc⟩ := y
      dsimp only at y1 y2 y3 y4 hCL hOj hOR hTR
      obtain ⟨m1, m2, m3, m4⟩ := hTR.out.cells
      have hTl : w.heap.size + 1 < wr.heap.size := CB.lt hTR.out
      dsimp only at m1 m2 m3 m4
      have hbd := Lib.hid (Below.refl wr.heap.size wr).drew
      have hCL2 := Lib.hid (hCL.out wr.drew (hBL.out.trans (hbd.out.mono hBL.out.size)) (hOj.out) (hOR.out))
      clear hcc hCL hxm hym
      go_wp2_with (fail)
      go_region_held3 (fun w' => w'.cell? ⟨tb, to' + j * 4, none⟩ = some (.int .i64 xn) ∧ w'.cell? ⟨tb, to' + j * 4 + 1, none⟩ = some (.slice PA xps.length pc) ∧ w'.cell? ⟨tb, to' + j * 4 + 2, none⟩ = some (.slice QA xins.length qc) ∧ w'.cell? ⟨tb, to' + j * 4 + 3, none⟩ = some (.int .i64 xc) ∧ w'.cell? ⟨w.heap.size + 1, 0, none⟩ = some (.int .i64 yn') ∧ w'.cell? ⟨w.heap.size + 1, 1, none⟩ = some (.slice PB yps.length pd) ∧ w'.cell? ⟨w.heap.size + 1, 2, none⟩ = some (.slice QB yins.length qd) ∧ w'.cell? ⟨w.heap.size + 1, 3, none⟩ = some (.int .i64 yc))
        (first
          | exact ⟨y1, y2, y3, y4, m1, m2, m3, m4⟩
          | exact eightB_next ⟨y1, y2, y3, y4, m1, m2, m3, m4⟩ hB3.out
          | go_keep)
        ((go_at_call 67; (with_reducible refine hCL2.out.mono ?_); rintro e w3 ⟨d, rfl, hd, h3⟩; have hB3 := Lib.hid (hbd.out.trans (h3.mono hbd.out.size)); have hDD := Lib.hid hd; clear hd))
      clear y1 y2 y3 y4 m1 m2 m3 m4
      have hT3 := Lib.hid (CB.below hTR.out hB3.out hTl)
      have hTZ3 := Lib.hid (CB.below hTZ.out hB3.out (by omega))
      have hB4 := Lib.hid (hBL.out.trans (hB3.out.mono hBL.out.size))
      obtain ⟨f1, f2, f3, f4⟩ := TX.fz hT3.out
      obtain ⟨n1, n2, n3, n4⟩ := TX.cells hT3.out
      dsimp only at n1 n2 n3 n4
      clear h3
      by_cases hq : d < 0
      · have hs := Lib.hid (hS1.out (hDD.out.1 hq))
        have hX := Lib.hid (TX.put hT3.out ⟨xn, .slice PA xps.length pc, .slice QA xins.length qc, xc⟩)
        have hY := Lib.hid (below_put4t hB4.out (show w.heap.size ≤ w.heap.size + 1 by omega) ⟨xn, .slice PA xps.length pc, .slice QA xins.length qc, xc⟩)
        have hZ := Lib.hid (TX.chgB hTZ3.out (chg_put4t w3 (w.heap.size + 1) ⟨xn, .slice PA xps.length pc, .slice QA xins.length qc, xc⟩) (by omega))
        go_wp2
        go_roundw
        case rel => exact ⟨j + 1, by omega, hjh.out, by go_num, hZ.out, ⟨_, hX.out, by rw [hNN.out, hs.out]; exact hOj.out⟩, hY.out⟩
        case measure => simp [intOf]; omega
      · have hs := Lib.hid (hS2.out (by have h1 : ¬ kx < ky := fun h => hq (hDD.out.2 h); omega))
        go_wp2
        go_roundw
        case rel => exact ⟨j + 1, by omega, hjh.out, by go_num, hTZ3.out, ⟨_, hT3.out, by rw [hNN.out, hs.out]; exact hOR.out⟩, hB4.out⟩
        case measure => simp [intOf]; omega
    · obtain rfl : j = ts.length := by omega
      obtain ⟨PB, pd, QB, qd, rfl, _, _⟩ := hOR.out.form
      have hKK : Hid (chK (wcT P) ts = minTo (wcT P) ts (ts.length - 1)) := rfl
      generalize minTo (wcT P) ts (ts.length - 1) = y at *
      obtain ⟨yn', yps, yins, yc⟩ := y
      dsimp only at hOR hTR
      obtain ⟨m1, m2, m3, m4⟩ := hTR.out.cells
      obtain ⟨f1, f2, f3, f4⟩ := TX.fz hTZ.out
      obtain ⟨n1, n2, n3, n4⟩ := TX.cells hTZ.out
      dsimp only [zeroRt] at n1 n2 n3 n4
      dsimp only at m1 m2 m3 m4
      have hX := Lib.hid (TX.put hTZ.out ⟨yn', .slice PB yps.length pd, .slice QB yins.length qd, yc⟩)
      have hY := Lib.hid (below_put4t hBL.out (Nat.le_refl _) ⟨yn', .slice PB yps.length pd, .slice QB yins.length qd, yc⟩)
      go_wp2
      refine tile_ret (g := w.heap.size) (r := ⟨yn', .slice PB yps.length pd, .slice QB yins.length qd, yc⟩) rfl rfl hX.out ?_
      exact ⟨_, rfl, by rw [hKK.out]; exact hOR.out.below hY.out hB, hY.out⟩
end Go.Proofs.Ytgcbfiamhpfkhaa

/- The cover that a comparison chooses: the program. -/
namespace Go.Proofs.Ytgcbfiamhpfkhaa
open Go.RowKit Go.Shelf
set_option linter.unusedVariables false
set_option maxRecDepth 100000
attribute [local go_sem] Oper.semAt_some

/-- The cover when some rounds have been. -/
def chFB (es : List Nd) (ch : Nat → Ti) (pre : List (Bw es)) : List Int := pre.foldl (fun cs x => if cs.getD x.1.1 0 = -2 then layL cs x.1.1 (ch x.1.1) else cs) (opn es.length)
theorem chFB_snoc (es : List Nd) (ch : Nat → Ti) (pre : List (Bw es)) (x : Bw es) : chFB es ch (pre ++ [x]) = if (chFB es ch pre).getD x.1.1 0 = -2 then layL (chFB es ch pre) x.1.1 (ch x.1.1) else chFB es ch pre := by
  unfold chFB; rw [List.foldl_append]; rfl
theorem chFB_upto (es : List Nd) (ch : Nat → Ti) (h : 1 ≤ es.length) : ∀ k, chFB es ch (uptoB (bwF es h) k) = chSt es.length ch k
  | 0 => rfl
  | k + 1 => by rw [uptoB_succ, chFB_snoc, chFB_upto es ch h k]; rfl
theorem chFB_len (es : List Nd) (ch : Nat → Ti) (pre : List (Bw es)) : (chFB es ch pre).length = es.length := by
  unfold chFB
  have : ∀ (l : List (Bw es)) (cs : List Int), (l.foldl (fun cs x => if cs.getD x.1.1 0 = -2 then layL cs x.1.1 (ch x.1.1) else cs) cs).length = cs.length := by
    intro l
    induction l with
    | nil => intro cs; rfl
    | cons x l ih => intro cs; rw [List.foldl_cons, ih]; split; exact layL_len _ _ _; rfl
  rw [this, opn_len]
/-- What lies in the boxes of chosenCover. -/
structure CXB (w0 W : World) (n : Nat) (A : Option Addr) (c : Nat) (F : Value) (g h : Nat) (cs : List Int) : Prop where
  b2 : BX W w0.heap.size 27 (.slice A n c)
  b3 : BX W (w0.heap.size + 1) 83 F
  gq : w0.heap.size + 1 < g
  ib : IB W g 3 cs
  gh : g < h
  b9 : BX W h 23 (.slice (some ⟨g, 0, none⟩) n n)
  be : Below w0.heap.size w0 W
theorem CXB.kept {w0 W W' : World} {n : Nat} {A : Option Addr} {c : Nat} {F : Value} {g h : Nat} {cs : List Int} {row : Option Nat} (hT : CXB w0 W n A c F g h cs) (hg : W.grownBy W' row) (hr : ∀ r, row = some r → w0.heap.size ≤ r ∧ ∃ o : Obj, W.heap[r]? = some o ∧ o.isCells = false) : CXB w0 W' n A c F g h cs := by
  have hr' : ∀ r, row = some r → ∃ o : Obj, W.heap[r]? = some o ∧ o.isCells = false := fun r e => (hr r e).2
  have bx : ∀ {b : Nat} {t : TypeId} {v : Value}, BX W b t v → BX W' b t v := fun hb => hb.kept hg (row_not hb hr')
  exact ⟨bx hT.b2, bx hT.b3, hT.gq, (hg.block g hT.ib.lt (fun e => row_not (show W.heap[g]? = some (.cells (intCells cs) 3 (0, 0)) from hT.ib) hr' e.symm)).trans hT.ib, hT.gh, bx hT.b9, hT.be.grown hg hT.be.size (fun k e => (hr k e).1)⟩
theorem CXB.below {w0 W W' : World} {n : Nat} {A : Option Addr} {c : Nat} {F : Value} {g h : Nat} {cs : List Int} (hT : CXB w0 W n A c F g h cs) (hb : Below W.heap.size W W') : CXB w0 W' n A c F g h cs :=
  ⟨hT.b2.next hb, hT.b3.next hb, hT.gq, hT.ib.below hb hT.ib.lt, hT.gh, hT.b9.next hb, hT.be.trans (hb.mono hT.be.size)⟩
theorem CXB.lay {w0 W W' : World} {n : Nat} {A : Option Addr} {c : Nat} {F : Value} {g h : Nat} {cs cs' : List Int} (hT : CXB w0 W n A c F g h cs) (hc : Chg g (g + 1) W W') (hi : IB W' g 3 cs') : CXB w0 W' n A c F g h cs' := by
  have gq := hT.gq; have gh := hT.gh
  exact ⟨hT.b2.chg hc (.inl (by omega)), hT.b3.chg hc (.inl (by omega)), gq, hi, gh, hT.b9.chg hc (.inr (by omega)), below_chg hT.be hc hT.be.size (by omega)⟩

set_option maxHeartbeats 8000000 in
theorem chosenB_any (L B : Nat) (cb b m : Nat) (f : Int → Int) (A : Option Addr) (c : Nat) (es : List Nd) (w : World) (ht : treeR es = true) (hes : NS w L B A es) (hB : B ≤ w.heap.size) (hm : MP w b m f) (hf : ∀ k : Nat, k < es.length → f (k : Int) = (prTo es es.length).getD k 0) (hcb : BX w cb 69 (.map (some b))) :
    Calls Try.prog 66 #[.slice A es.length c, .func (.func 67) #[] #[.pointer (some ⟨cb, 0, none⟩)]] w fun e w' => ∃ g, e = .returned (.slice (some ⟨g, 0, none⟩) es.length es.length) ∧ w.heap.size ≤ g ∧ IB w' g 3 (chR es.length (chE (kB es) es)) ∧ Below w.heap.size w w' := by
  have hg : good es = true := by unfold treeR at ht; simp only [Bool.and_eq_true] at ht; exact ht.1
  obtain ⟨hl1, hl24, hok⟩ := good_len hg
  have hl : es.length ≤ 1048576 := by omega
  have HO := Lib.hid fun (W : World) => openCover_any A c es.length W hl1 hl24
  have HT := Lib.hid fun (k : Nat) (hk : k < es.length) (W : World) (hW : Below w.heap.size w W) => (show Calls Try.prog 62 #[.slice A es.length c, .int .i64 (k : Int)] W (TilesAre W (tsN es k)) from by rw [tsN_eq hk]; exact tilesOf_w L B A c es k hk W (hes.below hW hB) (Nat.le_trans hB hW.size) hl24 hok)
  have HM := Lib.hid fun (k : Nat) (hk : k < es.length) (L' B' : Nat) (A' : Option Addr) (c' : Nat) (rs : List Rt) (W : World) (hrs : RS Rt.enc 4 W L' B' A' rs) (hall : AllOk W L' B' rs (tsN es k)) (hB' : B' ≤ W.heap.size) (hW : Below w.heap.size w W) => (show Calls Try.prog 123 #[.slice A' rs.length c', .func (.func 67) #[] #[.pointer (some ⟨cb, 0, none⟩)]] W fun e w' => ∃ r : Rt, e = .returned (.agg #[.int .i64 r.num, r.p, r.q, .int .i64 r.c]) ∧ RtOk w' L' B' r (chE (kB es) es k) ∧ Below W.heap.size W w' from by
    have hl1 := tsN_pos hok hk
    have hl13 : (tsN es k).length ≤ 13 := tilesL_len _ _
    have hps : ∀ x ∈ tsN es k, ∀ p ∈ x.ps, 0 ≤ p ∧ p < (es.length : Int) := fun x hx p hp => by have := tsN_ps hok hk x hx p hp; omega
    have hp2 : ∀ x ∈ tsN es k, x.ps.length ≤ 2 := tsN_ps2
    have hcl : ∀ x ∈ tsN es k, (0 ≤ x.c ∧ x.c ≤ 4) ∧ x.ins.length ≤ 2 := fun x hx => ⟨tsN_cb hk x hx, by obtain ⟨t, _, _, _, hm⟩ := tsN_c hk hx; exact (mt_len hm).2⟩
    exact minFuncB_any L' B' cb b m es.length f (prTo es es.length) A' c' rs (tsN es k) W hl1 hl13 hrs hall hB' hps hp2 (by omega) (hm.next hW) hf (hcb.next hW))
  have hps := Lib.hid (chE_ps hok (kB es))
  have hps2 := Lib.hid (chE_ps2 hok (kB es))
  have HN := Lib.hid fun (W : World) (hW : Below w.heap.size w W) => hes.below hW hB
  have HKb := Lib.hid fun (W : World) (hW : Below w.heap.size w W) => hes.below hW hB
  clear HN
  obtain ⟨F, hF⟩ : ∃ F, F = (Value.func (.func 67) #[] #[.pointer (some ⟨cb, 0, none⟩)]) := ⟨_, rfl⟩
  obtain ⟨W2, hW2⟩ : ∃ W2, W2 = (w.alloc (.cells #[.slice A es.length c] 27)).alloc (.cells #[Value.func (.func 67) #[] #[.pointer (some ⟨cb, 0, none⟩)]] 83) := ⟨_, rfl⟩
  have z1 := World.size_alloc w (.cells #[.slice A es.length c] 27)
  have z2 : W2.heap.size = w.heap.size + 1 + 1 := by rw [hW2, World.size_alloc, z1]
  have B2 : Below w.heap.size w W2 := by rw [hW2]; exact ((Below.refl _ w).alloc (Nat.le_refl _) _).alloc (by omega) _
  have k2 : BX W2 w.heap.size 27 (.slice A es.length c) := by rw [hW2]; exact (BX.new w _ _).al _
  have k3 : BX W2 (w.heap.size + 1) 83 (Value.func (.func 67) #[] #[.pointer (some ⟨cb, 0, none⟩)]) := by
    rw [hW2]; have h := BX.new (w.alloc (.cells #[.slice A es.length c] 27)) 83 (Value.func (.func 67) #[] #[.pointer (some ⟨cb, 0, none⟩)])
    rw [z1] at h; exact h
  have hW2h := Lib.hid hW2.symm
  have B2h := Lib.hid B2
  have K2 := Lib.hid k2
  have K3 := Lib.hid k3
  have Z2 := Lib.hid z2
  have m2 := k2.cell
  clear z1 z2 hW2 B2 k2 k3
  refine (callsIn_wide (n := 6)).1 ?_
  refine callsIn_of_wp_marks Try.func66 rfl trivial ?_ rfl
  simp only [Try.ntmps66, List.size_toArray, List.length_cons, List.length_nil, Nat.reduceAdd, Nat.reduceSub, Array.replicate_succ, Array.replicate_zero, List.push_toArray, List.append_toArray, List.nil_append, List.cons_append]
  gi_wp2
  rw [hW2h.out]
  gi_wp2
  refine ⟨trivial, callsIn_wide.2 ((HO.out W2).mono ?_)⟩
  rintro e W7 ⟨g, rfl, hg7, hib, hb7⟩
  have I7 := Lib.hid hib
  have R2 := Lib.hid (K2.out.next hb7)
  have R3 := Lib.hid (K3.out.next hb7)
  have B7 := Lib.hid (B2h.out.trans (hb7.mono B2h.out.size))
  have Zg := Lib.hid (show w.heap.size + 1 < g by have := Z2.out; omega)
  have hgl := hib.lt
  have m3 := R2.out.cell
  have s2 : w.heap.size < W7.heap.size := R2.out.lt
  clear hib hb7 hg7 K2 K3 B2h Z2 HO m2 hW2h
  gi_wp2
  have z8 := World.size_alloc W7 (.cells #[.slice (some ⟨g, 0, none⟩) es.length es.length] 23)
  have a8 := (Below.refl W7.heap.size W7).alloc (Nat.le_refl _) (.cells #[.slice (some ⟨g, 0, none⟩) es.length es.length] 23)
  have S9 := Lib.hid (BX.new W7 23 (.slice (some ⟨g, 0, none⟩) es.length es.length))
  have S2 := Lib.hid (R2.out.next a8)
  have S3 := Lib.hid (R3.out.next a8)
  have I8 := Lib.hid (I7.out.below a8 hgl)
  have B8 := Lib.hid (B7.out.trans (a8.mono B7.out.size))
  obtain ⟨W8, hW8⟩ : ∃ W8, W8 = W7.alloc (.cells #[.slice (some ⟨g, 0, none⟩) es.length es.length] 23) := ⟨_, rfl⟩
  obtain ⟨h, hh⟩ : ∃ h, h = W7.heap.size := ⟨_, rfl⟩
  rw [← hW8, ← hh]
  rw [← hW8, ← hh] at S9 z8
  rw [← hW8] at S2 S3 I8 B8
  have Zh := Lib.hid (show g < h by omega)
  have Z8 := Lib.hid z8
  clear a8 R2 R3 I7 B7 hW8 hh m3 s2 hgl z8
  refine ⟨trivial, (bw_in Fence.wide 5 trivial rfl A es.length c W8).mono ?_⟩
  rintro e W9 ⟨rfl, rfl⟩
  have a9 := (Below.refl W8.heap.size W8).alloc (Nat.le_refl _) (.cells #[.slice A es.length c] 27)
  have T9 := Lib.hid (S9.out.next a9)
  have T2 := Lib.hid (S2.out.next a9)
  have T3 := Lib.hid (S3.out.next a9)
  have I9 := Lib.hid (I8.out.below a9 I8.out.lt)
  have B9 := Lib.hid (B8.out.trans (a9.mono B8.out.size))
  have TB9 := Lib.hid (BX.new W8 27 (.slice A es.length c))
  have hes9 := Lib.hid (HKb.out _ B9.out)
  have Zb := Lib.hid (show h < W8.heap.size by have := Z8.out; omega)
  obtain ⟨Bs, hBs⟩ : ∃ Bs, Bs = W8.heap.size := ⟨_, rfl⟩
  obtain ⟨W9, hW9⟩ : ∃ W9, W9 = W8.alloc (.cells #[.slice A es.length c] 27) := ⟨_, rfl⟩
  rw [← hBs, ← hW9]
  rw [← hW9] at T9 T2 T3 I9 B9 hes9 TB9
  rw [← hBs] at Zb TB9
  clear a9 S2 S3 S9 I8 B8 hW9 hBs Z8
  gi_wp2
  refine wpIn_rangeFunc_ownF rfl (by omega) (gf := 163) (lb := #[.pointer (some ⟨Bs, 0, none⟩)]) rfl trivial (enters_of Try.func163 (by kernel_rfl) rfl)
    (bw_stops Fence.wide 5 trivial rfl (by omega) Bs w.heap.size L B A c es hl hl1 W9 B9.out.size TB9.out hes9.out hB) KpB.t (KpB.b B9.out.size) (Below.refl _ _) (fun _ => rfl)
    (fun pre W => CXB w W es.length A c (Value.func (.func 67) #[] #[.pointer (some ⟨cb, 0, none⟩)]) g h (chFB es (chE (kB es) es) pre))
    (fun _ _ _ => False)
    ?hI ?hIx ?h0 ?a1 ?assign ?body ?done ?stop
  case assign =>
    intro l x W K hK
    gi_wp2
    exact hK
  case hI =>
    rintro pre W W' row hCX hg hr
    exact hCX.kept hg (fun r e => ⟨Nat.le_trans B9.out.size (hr r e).1, (hr r e).2⟩)
  case hIx =>
    rintro cd pre W W' row hh hg hr
    exact hh
  case h0 => exact ⟨T2.out, T3.out, Zg.out, I9.out, Zh.out, T9.out, B9.out⟩
  case stop =>
    rintro D cd pre W _ _ hh _
    exact hh.elim
  case done =>
    rintro D ys W hD rfl hCX hK
    rw [chFB_upto] at hCX
    have y9 := hCX.b9.cell
    have hCXh := Lib.hid hCX
    clear hCX
    gi_wp2
    have hDw : w.heap.size ≤ D := Nat.le_trans B9.out.size hD
    have hCX := hCXh.out
    have rD : ∀ r, some D = some r → w.heap.size ≤ r ∧ ∃ o : Obj, W.heap[r]? = some o ∧ o.isCells = false := fun r e => by cases e; exact ⟨hDw, _, hK, rfl⟩
    have hC2 := hCX.kept (grownBy_putObj' W D (.deferred none)) rD
    refine ⟨by simp, .inl ⟨_, _, rfl, run_takeDeferred hK, ?_⟩⟩
    exact ⟨_, results_tmp rfl _ _ _, g, rfl, by have := hC2.gq; omega, hC2.ib, hC2.be⟩
  case body =>
    rintro l pre x W hCX hpl
    obtain ⟨⟨k, nd⟩, hk⟩ := x
    have hk' : k < es.length := hk
    have hsl := chFB_len es (chE (kB es) es) pre
    have hsn := Lib.hid (chFB_snoc es (chE (kB es) es) pre ⟨(k, nd), hk⟩)
    have hki : (k : Int) < (es.length : Int) := by omega
    have hk0 : (0 : Int) ≤ (k : Int) := by omega
    have y9 := hCX.b9.cell
    have yg := hCX.ib.cell k (by omega)
    rw [show (chFB es (chE (kB es) es) pre)[k]'(by omega) = (chFB es (chE (kB es) es) pre).getD k 0 from (getD_get (by omega)).symm] at yg
    have hgW : g < W.heap.size := hCX.ib.lt
    have hhW : h < W.heap.size := hCX.b9.lt
    have hghh := Lib.hid hCX.gh
    have hgq' := Lib.hid hCX.gq
    generalize hcn : chFB es (chE (kB es) es) (pre ++ [⟨(k, nd), hk⟩]) = cn at *
    have hCN := Lib.hid hcn
    clear hcn
    generalize chFB es (chE (kB es) es) pre = cs at *
    by_cases hc : cs.getD k 0 = -2
    rotate_left
    · have hs := Lib.hid (show cn = cs from by rw [hsn.out]; exact if_neg hc)
      have hCXh := Lib.hid hCX
      have hcb : (cs.getD k 0 == -2) = false := by simpa using hc
      clear hCX hsl hsn
      generalize cs.getD k 0 = xk at *
      gi_wp2
      exact ⟨KeepsOthers.refl _, ⟨Below.refl _ _, fun _ h => h⟩, by dsimp only; rw [hCN.out, hs.out]; exact hCXh.out⟩
    have hs := Lib.hid (show cn = layL cs k (chE (kB es) es k) from by rw [hsn.out]; exact if_pos hc)
    rw [hc] at yg
    have hB0 := Lib.hid hCX.be
    have hzW := hCX.be.size
    have y2 := hCX.b2.cell
    have y3 := hCX.b3.cell
    have hTi := Lib.hid (HT.out k hk')
    have hMi := Lib.hid (HM.out k hk')
    have hpi := Lib.hid (hps.out k hk')
    have hpi2 := hps2.out k hk'
    have hCXh := Lib.hid hCX
    have hslh := Lib.hid hsl
    have hkh := Lib.hid hk'
    clear hCX hsn hc hsl
    generalize tsN es k = ts at *
    generalize chE (kB es) es k = y at *
    gi_wp2
    have l2 : w.heap.size < W.heap.size := hCXh.out.b2.lt
    have l3 : w.heap.size + 1 < W.heap.size := hCXh.out.b3.lt
    have hBd := Lib.hid hB0.out.drew
    refine region_round (S := fun w' => w'.cell? ⟨h, 0, none⟩ = some (.slice (some ⟨g, 0, none⟩) es.length es.length) ∧ w'.cell? ⟨w.heap.size, 0, none⟩ = some (.slice A es.length c) ∧ w'.cell? ⟨w.heap.size + 1, 0, none⟩ = some (Value.func (.func 67) #[] #[.pointer (some ⟨cb, 0, none⟩)])) (by kernel_rfl) (by kernel_rfl) (fun _ _ h => h) ⟨y9, y2, y3⟩ (fun hHeld => ?_)
    refine wpAnyH_take (i := 0) (v := ?_) rfl (by kernel_rfl) (by kernel_rfl) (by kernel_rfl) (fun _ _ _ h => h) (Or.inl ⟨by rfl, ?_⟩) (by assumption) ?_
    rotate_left 1
    · (intro w hSw; (try dsimp only at hSw); go_simp; try with_reducible rfl)
    try simp only [Act.put, List.setIfInBounds_toArray, List.set_cons_zero, List.set_cons_succ]
    refine wpAnyH_take (i := 1) (v := ?_) rfl (by kernel_rfl) (by kernel_rfl) (by kernel_rfl) (fun _ _ _ h => h) (Or.inl ⟨by rfl, ?_⟩) (by assumption) ?_
    rotate_left 1
    · (intro w hSw; (try dsimp only at hSw); go_simp; try with_reducible rfl)
    try simp only [Act.put, List.setIfInBounds_toArray, List.set_cons_zero, List.set_cons_succ]
    refine wpAnyH_take (i := 2) (v := ?_) rfl (by kernel_rfl) (by kernel_rfl) (by kernel_rfl) (fun _ _ _ h => h) (Or.inl ⟨by rfl, ?_⟩) (by assumption) ?_
    rotate_left 1
    · (intro w hSw; (try dsimp only at hSw); go_simp; try with_reducible rfl)
    try simp only [Act.put, List.setIfInBounds_toArray, List.set_cons_zero, List.set_cons_succ]
    refine wpAnyH_take (i := 3) (v := ?_) rfl (by kernel_rfl) (by kernel_rfl) (by kernel_rfl) (fun _ _ _ h => h) (Or.inl ⟨by rfl, ?_⟩) (by assumption) ?_
    rotate_left 1
    · (intro w hSw; (try dsimp only at hSw); go_simp; try with_reducible rfl)
    try simp only [Act.put, List.setIfInBounds_toArray, List.set_cons_zero, List.set_cons_succ]
    refine wpAnyH_take (i := 5) (v := ?_) rfl (by kernel_rfl) (by kernel_rfl) (by kernel_rfl) (fun _ _ _ h => h) (Or.inl ⟨by rfl, ?_⟩) (by assumption) ?_
    rotate_left 1
    · (intro w hSw; (try dsimp only at hSw); go_simp; try with_reducible rfl)
    try simp only [Act.put, List.setIfInBounds_toArray, List.set_cons_zero, List.set_cons_succ]
    refine wpAnyH_ready (rs := [4]) (by kernel_rfl) (by simp) ?_
    refine AllReadyH.cons rfl (fun K hK => ?_) AllReadyH.nil
    try simp only [List.getElem_toArray, List.getElem_cons_zero, List.getElem_cons_succ]
    go_simp
    go_at_call 62
    refine (hTi.out _ hBd.out).mono ?_
    rintro e w2 ⟨TA, tc, rs, rfl, hrs, hall, hb2⟩
    have hb2' : Below W.heap.size W w2 := ⟨hb2.os, hb2.tape, hb2.output, hb2.size, hb2.block⟩
    have e9 := (hb2'.cell (p := ⟨h, 0, none⟩) hhW).trans y9
    have e2 := (hb2'.cell (p := ⟨w.heap.size, 0, none⟩) l2).trans y2
    have e3 := (hb2'.cell (p := ⟨w.heap.size + 1, 0, none⟩) l3).trans y3
    have hMc := Lib.hid (hMi.out _ _ TA tc rs w2 hrs hall (Nat.le_refl _) (hB0.out.trans (hb2'.mono hB0.out.size)))
    rw [hall.1] at hMc
    refine hK.out _ _ ⟨e9, e2, e3⟩ (fun hHeld => ?_)
    clear hK K
    try simp only [Act.put, List.setIfInBounds_toArray, List.set_cons_zero, List.set_cons_succ]
    refine wpAnyH_ready (rs := [6]) (by kernel_rfl) (by simp) ?_
    refine AllReadyH.cons rfl (fun K hK => ?_) AllReadyH.nil
    try simp only [List.getElem_toArray, List.getElem_cons_zero, List.getElem_cons_succ]
    go_simp
    go_at_call 123
    refine hMc.out.mono ?_
    rintro e w4 ⟨r, rfl, hr, hb4⟩
    obtain ⟨PA, pc, QA, qc, rfl, _, _⟩ := hr.form
    dsimp only
    have hb24 : Below W.heap.size W w4 := hb2'.trans (hb4.mono hb2'.size)
    have hC4 := hCXh.out.below hb24
    have hLay := Lib.hid (layTile_any g es.length _ _ k cs _ y w4 hslh.out hkh.out hl24 hC4.ib (hr) (Nat.le_trans (Nat.le_refl _) hb4.size) (.inl hgW) hpi.out hpi2)
    dsimp only at hLay
    have hk24 := keeps_below (n := w.heap.size) (Bs := Bs) (t := 27) hb24 hB0.out.size
    have u9 := hC4.b9.cell
    have u2 := hC4.b2.cell
    have u3 := hC4.b3.cell
    refine hK.out _ _ ⟨u9, u2, u3⟩ (fun hHeld => ?_)
    clear hK K
    try simp only [Act.put, List.setIfInBounds_toArray, List.set_cons_zero, List.set_cons_succ]
    refine wpAnyH_ready (rs := [7]) (by kernel_rfl) (by simp) ?_
    refine AllReadyH.cons rfl (fun K hK => ?_) AllReadyH.nil
    try simp only [List.getElem_toArray, List.getElem_cons_zero, List.getElem_cons_succ]
    go_simp
    go_at_call 122
    refine hLay.out.mono ?_
    rintro e w5 ⟨rfl, hI5, hC5⟩
    have hC6 := hC4.lay hC5 hI5
    have hk5 := keeps_lay (n := w.heap.size) (Bs := Bs) (t := 27) hC4.ib hC5 (by have := hgq'.out; omega) (by have := hghh.out; have := Zb.out; omega)
    refine hK.out _ _ ⟨hC6.b9.cell, hC6.b2.cell, hC6.b3.cell⟩ (fun hHeld => ?_)
    clear hK K
    try simp only [Act.put, List.setIfInBounds_toArray, List.set_cons_zero, List.set_cons_succ]
    refine wpAnyH_done (by kernel_rfl) ?_ _
    dsimp only [OnlyN]
    refine ⟨hk24.1.trans hk5.1, hk24.2.t hk5.2, ?_⟩
    dsimp only
    rw [hCN.out, hs.out]
    exact hC6
end Go.Proofs.Ytgcbfiamhpfkhaa
