import Derived.Test.YtgcbfiamhpfkhaaZ6
import Derived.WalkKit
import Derived.WalkSpells
import Derived.WalkLawsBesides
import Derived.Lib.Hide
/- Prices of the model. -/
namespace Go.Proofs.Ytgcbfiamhpfkhaa
open Go.RowKit
set_option linter.unusedVariables false
set_option maxRecDepth 100000

set_option maxHeartbeats 8000000 in
theorem cvWith_any (L B P PB : Nat) (A PA : Option Addr) (c pc : Nat) (es : List Nd) (cs : List Int) (k : Nat) (hk : k < es.length) (x : Ti) (hx : x ∈ tsN es k) (w : World) (hok : okFrom es 0 = true) (hes : NS w L B A es) (hB : B ≤ w.heap.size) (hcs : IS w P PB PA cs) (hPB : PB ≤ w.heap.size) (hl : cs.length = es.length) :
    Calls Try.prog 109 #[.slice A es.length c, .int .i64 (k : Int), .int .i64 x.num, .slice PA es.length pc] w fun e w' => e = .returned (.int .i64 (wcT cs x)) ∧ Below w.heap.size w w' := by
  obtain ⟨t, ht, he, hc, hm⟩ := tsN_c hk hx
  have H1 := Lib.hid (show Calls Try.prog 125 #[.slice A es.length c, .int .i64 (k : Int), .int .i64 (t : Int)] w fun e w' => e = .returned (.int .i64 x.c) ∧ w = w' from by rw [hc]; exact cvCost_any L B A c es k t hk w hes)
  have H2 := Lib.hid (show Calls Try.prog 73 #[.slice A es.length c, .int .i64 (k : Int), .int .i64 (t : Int)] w (TileM w (some x)) from by rw [← hm]; exact cvTile_n L B A c es k hk t ht w hes hB hok)
  have hps := Lib.hid (tsN_ps hok hk x hx)
  have hp2 := tsN_ps2 x hx
  have HC := Lib.hid fun (W : World) (hW : Below w.heap.size w W) => hcs.below hW hPB
  have hll := Lib.hid hl
  have hR : Hid (wcT cs x = wcTo x.c cs x.ps x.ps.length) := rfl
  rw [he]
  clear hes hcs hc hm hok he hx
  generalize wcT cs x = R at *
  obtain ⟨xn, ps, ins, xc⟩ := x
  dsimp only at H1 hps hp2 hR
  generalize es.length = n at *
  go_enter Try.func109, Try.ntmps109
  go_wp2_with (first | (go_at_call 125; refine H1.out.mono ?_; rintro e w1 ⟨rfl, rfl⟩) | (go_at_call 73; refine H2.out.mono ?_; rintro e w2 ⟨QA, qc, ZA, zc, rfl, hp, _, hb2⟩; dsimp only [Option.map_some, Option.getD_some, Option.isSome_some] at hp ⊢; have hpr := Lib.hid hp.rs; have hB2 := Lib.hid hb2; clear hp hb2))
  go_loop [9, 29] (fun cq q => ∃ t : Nat, t ≤ ps.length ∧ q = .int .i64 t ∧ cq = .int .i64 (wcTo xc cs ps t)) (fun _ q => ps.length - (intOf q).toNat)
  case atStart => exact ⟨0, Nat.zero_le _, rfl, rfl⟩
  case round =>
    obtain ⟨t, ht, rfl, rfl⟩ := hrel
    by_cases hltt : t < ps.length
    · obtain ⟨pb, po, rfl, _, hcc⟩ := hpr.out (by omega)
      have y1 := hcc t hltt
      have hpt := hps.out ps[t] (List.getElem_mem _)
      have hS := Lib.hid (wcTo_succ xc cs hltt)
      clear hcc
      generalize ps[t] = pp at *
      obtain ⟨pn, rfl⟩ := Int.eq_ofNat_of_zero_le hpt.1
      obtain ⟨cb, co, rfl, _, hdd⟩ := HC.out w2 hB2.out (by rw [hll.out]; omega)
      have hpn : pn < n := by omega
      have y2 := hdd pn (by rw [hll.out]; exact hpn)
      rw [show cs[pn]'(by rw [hll.out]; exact hpn) = cs.getD pn 0 from (getD_get (by rw [hll.out]; exact hpn)).symm] at y2
      clear hdd
      have hpm : (pn : Int) < (n : Int) := by omega
      have hpn0 : (0 : Int) ≤ (pn : Int) := by omega
      rw [Int.toNat_natCast] at hS
      generalize cs.getD pn 0 = cp at *
      generalize wcTo xc cs ps t = wt at *
      go_wp2
      go_round
      case rel => exact ⟨t + 1, by omega, by go_num, by rw [hS.out]⟩
      case measure => simp [intOf]; omega
    · obtain rfl : t = ps.length := by omega
      generalize wcTo xc cs ps ps.length = wt at *
      go_wp2
      go_ret
      exact ⟨by rw [hR.out]; rfl, hB2.out⟩

set_option maxHeartbeats 8000000 in
theorem cvPrices_any (L B : Nat) (A : Option Addr) (c : Nat) (es : List Nd) (w : World) (ht : treeR es = true) (hes : NS w L B A es) (hB : B ≤ w.heap.size) :
    Calls Try.prog 119 #[.slice A es.length c] w (fun e w' => ∃ g, e = .returned (.slice (some ⟨g, 0, none⟩) es.length es.length) ∧ w.heap.size ≤ g ∧ IB w' g 3 (prTo es es.length) ∧ Below w.heap.size w w') := by
  have hg : good es = true := by unfold treeR at ht; simp only [Bool.and_eq_true] at ht; exact ht.1
  obtain ⟨hl1, hl24, hok⟩ := good_len hg
  have H2 := Lib.hid fun (k : Nat) (hk : k < es.length) (W : World) (hW : Below w.heap.size w W) => (show Calls Try.prog 71 #[.slice A es.length c, .int .i64 (k : Int)] W (OwnIs W ((tsN es k).map Ti.num)) from by rw [tsN_eq hk, ← numsTo_all]; exact cvTiles_any L B A c es k hk W (hes.below hW hB) (Nat.le_trans hB hW.size) hok)
  have H3 := Lib.hid fun (k : Nat) (hk : k < es.length) (x : Ti) (hx : x ∈ tsN es k) (cs : List Int) (hl : cs.length = es.length) (g : Nat) (W : World) (hi : IB W g 3 cs) (hW : Below w.heap.size w W) =>
    cvWith_any L B g (g + 1) A (some ⟨g, 0, none⟩) c es.length es cs k hk x hx W hok (hes.below hW hB) (Nat.le_trans hB hW.size) hi.toIS hi.lt hl
  have hLn := Lib.hid fun (k : Nat) => (show (tsN es k).length ≤ 13 from tilesL_len _ _)
  have hSc := Lib.hid (prTo_next es)
  have hCl := Lib.hid (prTo_len es)
  have h00 := Lib.hid (prTo_zero es)
  have hmk := run_make_ints es.length (by omega)
  clear ht hg hes hB hok
  generalize tsN es = TS at *
  generalize prTo es = CC at *
  generalize es.length = n at *
  obtain ⟨m, rfl⟩ : ∃ m, n = m + 1 := ⟨n - 1, by omega⟩
  have hcm : ((m + 1 : Nat) : Int) = (m : Int) + 1 := by omega
  rw [hcm] at hmk
  have hT0 : Hid (IB (w.alloc (.cells (intCells (zeros (m + 1))) 3)) w.heap.size 3 (CC 0)) := by rw [h00.out]; exact heap_alloc_new w _
  have b1 := Lib.hid ((Below.refl w.heap.size w).alloc (Nat.le_refl _) (.cells (intCells (zeros (m + 1))) 3))
  go_enter Try.func119, Try.ntmps119
  go_wp2_with (fail)
  obtain ⟨g, hg0⟩ : ∃ g, g = w.heap.size := ⟨_, rfl⟩
  rw [← hg0]
  rw [← hg0] at hT0
  have hgw := Lib.hid (show w.heap.size ≤ g by omega)
  clear hg0
  generalize w.alloc (.cells (intCells (zeros (m + 1))) 3) = W1 at *
  go_loopw [13] (fun q wr => ∃ k : Nat, k ≤ m + 1 ∧ q = .int .i64 k ∧ IB wr g 3 (CC k) ∧ Below w.heap.size w wr) (fun q _ => m + 1 - (intOf q).toNat)
  case atStart => exact ⟨0, Nat.zero_le _, rfl, hT0.out, b1.out⟩
  case round =>
    obtain ⟨k, hk, rfl, hib, hbel⟩ := hrel
    have hIB := Lib.hid hib
    have hBL := Lib.hid hbel
    have hgl := hib.lt
    clear hib hbel
    by_cases hlt : k < m + 1
    · obtain ⟨wo, hwo⟩ : ∃ wo : World, wo = wr := ⟨_, rfl⟩
      rw [← hwo] at hIB hBL hgl ⊢
      clear hwo
      have hki : (k : Int) < (m : Int) + 1 := by omega
      have hC := Lib.hid (H2.out k hlt)
      have hC3 := Lib.hid (H3.out k hlt)
      have hSk := Lib.hid (hSc.out k)
      have hlk := hLn.out k
      have hcl := Lib.hid (hCl.out k)
      generalize TS k = ts at *
      generalize hck : CC (k + 1) = ck' at *
      have hck2 := Lib.hid hck
      clear hck
      generalize CC k = cs at *
      go_wp2_with (fail)
      refine (hC.out _ hBL.out).mono ?_
      rintro e w2 ⟨TA, tc, rfl, hown, hb2⟩
      have hRS := Lib.hid hown.rs
      have hB2 := Lib.hid (hBL.out.trans (hb2.mono hBL.out.size))
      have hI2 := Lib.hid (hIB.out.below hb2 hgl)
      have hg2 := Nat.lt_of_lt_of_le hgl hb2.size
      have hml : (ts.map Ti.num).length = ts.length := List.length_map _
      rw [hml]
      clear hown hb2
      go_wp2_with (fail)
      go_loopw [20] (fun q wr => ∃ j : Nat, j ≤ ts.length ∧ q = .int .i64 j ∧ IB wr g 3 (pcTo k cs ts j) ∧ Chg g (g + 1) w2 wr) (fun q _ => ts.length - (intOf q).toNat)
      case atStart => exact ⟨0, Nat.zero_le _, rfl, hI2.out, Chg.refl _ _ _⟩
      case round =>
        obtain ⟨j, hj, rfl, hib, hch⟩ := hrel
        have hIJ := Lib.hid hib
        have hCJ := Lib.hid hch
        have hgr := hib.lt
        clear hib hch
        by_cases hltj : j < ts.length
        · obtain ⟨tb, to', rfl, ⟨_, htb⟩, hcc⟩ := (hRS.out.chg hCJ.out (Nat.le_refl _) (.inr hgl)) (by rw [hml]; omega)
          have x1 := hcc j (by rw [hml]; exact hltj)
          rw [List.getElem_map] at x1
          have hcj := Lib.hid (pcTo_len k cs ts j)
          have hBr := below_chg hB2.out hCJ.out hB2.out.size hgw.out
          have hTi := Lib.hid (hC3.out ts[j] (List.getElem_mem _) (pcTo k cs ts j) (by rw [hcj.out, hcl.out]) g wr hIJ.out hBr)
          have hSj := Lib.hid (pcTo_succ k cs hltj)
          have hjh := Lib.hid hltj
          have hji : (j : Int) < (ts.length : Int) := by omega
          have hj13 : j ≤ 13 := by omega
          have hst1 := Lib.hid (pcStep_set (i := k) (j := j) (c := pcTo k cs ts j) (x := ts[j]))
          have hst2 := Lib.hid (pcStep_old (i := k) (j := j) (c := pcTo k cs ts j) (x := ts[j]))
          clear hcc
          generalize wcT (pcTo k cs ts j) ts[j] = wc at *
          generalize hcn : pcTo k cs ts (j + 1) = cn' at *
          have hcn2 := Lib.hid hcn
          clear hcn
          generalize ts[j] = x at *
          generalize pcTo k cs ts j = cj at *
          have hcm2 := Lib.hid hcm
          rw [← hcm] at hki
          go_wp2_with (fail)
          refine hTi.out.mono ?_
          rintro e w3 ⟨rfl, hb3⟩
          have hI3 := Lib.hid (hIJ.out.below hb3 hgr)
          have hC4 := Lib.hid (hCJ.out.trans (Chg.ofBelow hb3))
          have hcl2 : cj.length = m + 1 := by rw [hcj.out, hcl.out]
          have y := hI3.out.cell k (by omega)
          have hf := hI3.out.frozen k
          rw [show cj[k]'(by omega) = cj.getD k 0 from (getD_get (by omega)).symm] at y
          have hIs := Lib.hid fun v => hI3.out.set k v
          have hCs := Lib.hid fun v => hC4.out.setCell (p := ⟨g, k, none⟩) ⟨Nat.le_refl _, Nat.lt_succ_self _⟩ v
          have hk0 : (0 : Int) ≤ (k : Int) := by omega
          have hki2 : (k : Int) < (m : Int) + 1 := by omega
          clear hBr hb3 hTi x1
          by_cases hj0 : j = 0
          · subst hj0
            have hs := Lib.hid (hst1.out (.inl rfl))
            clear hst1 hst2
            go_wp2
            have := hjh.out
            exact ⟨⟨1, by omega, by simp, by have h := hIs.out wc; rw [hcn2.out, hSj.out, hs.out]; exact h, hCs.out _⟩, by simp [intOf]; omega⟩
          · have hji0 : ¬ (j : Int) = 0 := by omega
            have hjb : ((j : Int) == 0) = false := by simpa using hji0
            by_cases hq : wc < cj.getD k 0
            · have hs := Lib.hid (hst1.out (.inr hq))
              clear hst1 hst2
              generalize cj.getD k 0 = old at *
              go_wp2
              have := hjh.out
              exact ⟨⟨j + 1, hjh.out, by go_num, by have h := hIs.out wc; rw [hcn2.out, hSj.out, hs.out]; exact h, hCs.out _⟩, by simp [intOf]; omega⟩
            · have hs := Lib.hid (hst2.out (fun h => h.elim hj0 hq))
              clear hst1 hst2
              generalize cj.getD k 0 = old at *
              go_wp2
              have := hjh.out
              exact ⟨⟨j + 1, hjh.out, by go_num, by rw [hcn2.out, hSj.out, hs.out]; exact hI3.out, hC4.out⟩, by simp [intOf]; omega⟩
        · obtain rfl : j = ts.length := by omega
          have hB3 := Lib.hid (below_chg hB2.out hCJ.out hB2.out.size hgw.out)
          go_wp2
          go_roundw
          case rel => exact ⟨k + 1, by omega, by go_num, by rw [hck2.out, hSk.out]; exact hIJ.out, hB3.out⟩
          case measure => simp [intOf]; omega
    · obtain rfl : k = m + 1 := by omega
      go_wp2
      go_ret
      exact ⟨g, rfl, hgw.out, hIB.out, hBL.out⟩
end Go.Proofs.Ytgcbfiamhpfkhaa
