/- Texts of this proof, one behind the other: FH, GT, GU, GX, OC, ON. -/
import Derived.Test.YtdleiondfhmjdaaZ5
import Derived.WalkKit
import Derived.WalkSpells
import Derived.WalkLawsBesides
import Derived.Lib.Hide
import Derived.Test.YtdleiondfhmjdaaZ2
import Derived.Test.YtdleiondfhmjdaaLawEA
import Derived.Test.YtdleiondfhmjdaaZ13
import Derived.ProofKit
import Derived.OpenShut
import Derived.ShutString
import Derived.ChangeOld
import Derived.Below
import Derived.Deep.Slices
import Derived.Deep.Fields
import Derived.Test.YtdleiondfhmjdaaKMNode
/- CountCovers of the model. -/
namespace Go.Proofs.Ytdleiondfhmjdaa
open Go.RowKit
set_option linter.unusedVariables false
set_option maxRecDepth 100000

set_option maxHeartbeats 8000000 in
theorem cvCounts_any (L B : Nat) (A : Option Addr) (c : Nat) (es : List Nd) (w : World) (ht : treeR es = true) (hes : NS w L B A es) (hB : B ≤ w.heap.size) :
    Calls Try.prog 89 #[.slice A es.length c] w (fun e w' => ∃ g, e = .returned (.slice (some ⟨g, 0, none⟩) es.length es.length) ∧ w.heap.size ≤ g ∧ IB w' g 3 (ccTo es es.length) ∧ Below w.heap.size w w') := by
  have hg : good es = true := by unfold treeR at ht; simp only [Bool.and_eq_true] at ht; exact ht.1
  obtain ⟨hl1, hl24, hok⟩ := good_len hg
  have H2 := Lib.hid fun (k : Nat) (hk : k < es.length) (W : World) (hW : Below w.heap.size w W) => (show Calls Try.prog 80 #[.slice A es.length c, .int .i64 (k : Int)] W (OwnIs W ((tsN es k).map Ti.num)) from by rw [tsN_eq hk, ← numsTo_all]; exact cvTiles_any L B A c es k hk W (hes.below hW hB) (Nat.le_trans hB hW.size) hok)
  have H3 := Lib.hid fun (k : Nat) (hk : k < es.length) (x : Ti) (hx : x ∈ tsN es k) (W : World) (hW : Below w.heap.size w W) => (show Calls Try.prog 73 #[.slice A es.length c, .int .i64 (k : Int), .int .i64 x.num] W (TileM W (some x)) from by
    rw [tsN_eq hk] at hx
    obtain ⟨j, hj, rfl⟩ := List.getElem_of_mem hx
    obtain ⟨n, hn, he, hm⟩ := tilesL_at (es := es) es[k] hj
    rw [he, ← hm]
    exact cvTile_n L B A c es k hk n hn W (hes.below hW hB) (Nat.le_trans hB hW.size) hok)
  have hPs := Lib.hid fun (k : Nat) (hk : k < es.length) => tsN_ps hok hk
  have hP2 := Lib.hid fun (k : Nat) => @tsN_ps2 es k
  have hLn := Lib.hid fun (k : Nat) => (show (tsN es k).length ≤ 13 from tilesL_len _ _)
  have hSc := Lib.hid (ccTo_next es)
  have hCl := Lib.hid (ccTo_len es)
  have h00 := Lib.hid (ccTo_zero es)
  have hmk := run_make_ints es.length (by omega)
  clear ht hg hes hB hok
  generalize tsN es = TS at *
  generalize ccTo es = CC at *
  generalize es.length = n at *
  obtain ⟨m, rfl⟩ : ∃ m, n = m + 1 := ⟨n - 1, by omega⟩
  have hcm : ((m + 1 : Nat) : Int) = (m : Int) + 1 := by omega
  rw [hcm] at hmk
  have hT0 : Hid (IB (w.alloc (.cells (intCells (zeros (m + 1))) 3)) w.heap.size 3 (CC 0)) := by rw [h00.out]; exact heap_alloc_new w _
  have b1 := Lib.hid ((Below.refl w.heap.size w).alloc (Nat.le_refl _) (.cells (intCells (zeros (m + 1))) 3))
  go_enter Try.func89, Try.ntmps89
  go_wp2_with (fail)
  obtain ⟨g, hg0⟩ : ∃ g, g = w.heap.size := ⟨_, rfl⟩
  rw [← hg0]
  rw [← hg0] at hT0
  have hgw := Lib.hid (show w.heap.size ≤ g by omega)
  clear hg0
  generalize w.alloc (.cells (intCells (zeros (m + 1))) 3) = W1 at *
  go_loopw [18] (fun q wr => ∃ k : Nat, k ≤ m + 1 ∧ q = .int .i64 k ∧ IB wr g 3 (CC k) ∧ Below w.heap.size w wr) (fun q _ => m + 1 - (intOf q).toNat)
  case atStart => exact ⟨0, Nat.zero_le _, rfl, hT0.out, b1.out⟩
  case round =>
    obtain ⟨k, hk, rfl, hib, hbel⟩ := hrel
    have hIB := Lib.hid hib
    have hBL := Lib.hid hbel
    have hgl := hib.lt
    clear hib hbel
    by_cases hlt : k < m + 1
    · obtain ⟨wo, hwo⟩ : ∃ wo : World, wo = wr := ⟨_, rfl⟩
      rw [← hwo] at hIB hBL hgl ⊢
      clear hwo
      have hki : (k : Int) < (m : Int) + 1 := by omega
      have hC := Lib.hid (H2.out k hlt)
      have hC3 := Lib.hid (H3.out k hlt)
      have hSk := Lib.hid (hSc.out k)
      have hps := Lib.hid (hPs.out k hlt)
      have hps2 := Lib.hid (hP2.out k)
      have hlk := hLn.out k
      have hcl := Lib.hid (hCl.out k)
      generalize TS k = ts at *
      generalize hck : CC (k + 1) = ck' at *
      have hck2 := Lib.hid hck
      clear hck
      generalize CC k = cs at *
      go_wp2_with (fail)
      refine (hC.out _ hBL.out).mono ?_
      rintro e w2 ⟨TA, tc, rfl, hown, hb2⟩
      have hRS := Lib.hid hown.rs
      have hB2 := Lib.hid (hBL.out.trans (hb2.mono hBL.out.size))
      have hI2 := Lib.hid (hIB.out.below hb2 hgl)
      have hg2 := Nat.lt_of_lt_of_le hgl hb2.size
      have hml : (ts.map Ti.num).length = ts.length := List.length_map _
      rw [hml]
      clear hown hb2
      go_wp2_with (fail)
      go_loopw [25] (fun q wr => ∃ j : Nat, j ≤ ts.length ∧ q = .int .i64 j ∧ IB wr g 3 (cnTo k cs ts j) ∧ Chg g (g + 1) w2 wr) (fun q _ => ts.length - (intOf q).toNat)
      case atStart => exact ⟨0, Nat.zero_le _, rfl, hI2.out, Chg.refl _ _ _⟩
      case round =>
        obtain ⟨j, hj, rfl, hib, hch⟩ := hrel
        have hIJ := Lib.hid hib
        have hCJ := Lib.hid hch
        have hgr := hib.lt
        clear hib hch
        by_cases hltj : j < ts.length
        · obtain ⟨tb, to', rfl, ⟨_, htb⟩, hcc⟩ := (hRS.out.chg hCJ.out (Nat.le_refl _) (.inr hgl)) (by rw [hml]; omega)
          have x1 := hcc j (by rw [hml]; exact hltj)
          rw [List.getElem_map] at x1
          have hpj := Lib.hid (hps.out ts[j] (List.getElem_mem _))
          have hpl := hps2.out ts[j] (List.getElem_mem _)
          have hTi := Lib.hid (hC3.out ts[j] (List.getElem_mem _))
          have hSj := Lib.hid (cnTo_succ k cs hltj)
          have hcj := Lib.hid (cnTo_len k cs ts j)
          clear hcc
          generalize ts[j] = x at *
          obtain ⟨xn, ps, ins, xc⟩ := x
          dsimp only at x1 hpj hpl
          generalize hcn : cnTo k cs ts (j + 1) = cn' at *
          have hcn2 := Lib.hid hcn
          clear hcn
          generalize cnTo k cs ts j = cj at *
          have hBr := below_chg hB2.out hCJ.out hB2.out.size hgw.out
          go_wp2_with (fail)
          refine (hTi.out wr hBr).mono ?_
          rintro e Wx ⟨PA, pc, QA, qc, rfl, hp, _, hbx⟩
          dsimp only [Option.map_some, Option.getD_some] at hp
          have hIx := Lib.hid (hIJ.out.below hbx hgr)
          have hpx := Lib.hid hp.rs
          have hIs := Lib.hid fun v => hIx.out.set k v
          have hCs := Lib.hid fun v => (hCJ.out.trans (Chg.ofBelow hbx)).setCell (p := ⟨g, k, none⟩) ⟨Nat.le_refl _, Nat.lt_succ_self _⟩ v
          have hcl2 : cj.length = m + 1 := by rw [hcj.out, hcl.out]
          have hck := hIx.out.cell k (by omega)
          have hfk := hIx.out.frozen k
          have hgk : cj[k]'(by omega) = cj.getD k 0 := (getD_get (by omega)).symm
          rw [hgk] at hck
          clear hgk hp hBr hbx x1
          have hck0 := Lib.hid hck
          clear hck
          dsimp only [Option.map_some, Option.getD_some, Option.isSome_some]
          go_wp2_with (fail)
          go_loop [7, 39] (fun cq q => ∃ t : Nat, t ≤ ps.length ∧ q = .int .i64 t ∧ cq = .int .i64 (wyTo cj ps t)) (fun _ q => ps.length - (intOf q).toNat)
          case atStart => exact ⟨0, Nat.zero_le _, rfl, rfl⟩
          case round =>
            obtain ⟨t, ht, rfl, rfl⟩ := hrel
            by_cases hltt : t < ps.length
            · obtain ⟨pb, po, rfl, ⟨_, hpb⟩, hcc⟩ := hpx.out (by omega)
              have y1 := hcc t hltt
              have hpt := hpj.out ps[t] (List.getElem_mem _)
              have hS := Lib.hid (wyTo_succ cj hltt)
              clear hcc
              generalize ps[t] = pp at *
              obtain ⟨pn, rfl⟩ := Int.eq_ofNat_of_zero_le hpt.1
              have hpm : (pn : Int) < (m : Int) + 1 := by omega
              have hpn0 : (0 : Int) ≤ (pn : Int) := by omega
              have y2 := hIx.out.cell pn (by omega)
              rw [show cj[pn]'(by omega) = cj.getD pn 0 from (getD_get (by omega)).symm] at y2
              rw [Int.toNat_natCast] at hS
              generalize cj.getD pn 0 = cp at *
              generalize wyTo cj ps t = wt at *
              go_wp2
              go_round
              case rel => exact ⟨t + 1, by omega, by go_num, by rw [hS.out]⟩
              case measure => simp [intOf]; omega
            · obtain rfl : t = ps.length := by omega
              have hS := Lib.hid (show cn' = cj.set k (wrap64 (cj.getD k 0 + wyTo cj ps ps.length)) by rw [hSj.out]; rfl)
              have hck := hck0.out
              have hk0 : (0 : Int) ≤ (k : Int) := by omega
              generalize wyTo cj ps ps.length = wt at *
              generalize cj.getD k 0 = ck at *
              go_wp2
              go_roundw
              case rel => exact ⟨j + 1, by omega, by go_num, by rw [hcn2.out, hS.out]; exact hIs.out _, hCs.out _⟩
              case measure => simp [intOf]; omega
        · obtain rfl : j = ts.length := by omega
          have hB3 := Lib.hid (below_chg hB2.out hCJ.out hB2.out.size hgw.out)
          go_wp2
          go_roundw
          case rel => exact ⟨k + 1, by omega, by go_num, by rw [hck2.out, hSk.out]; exact hIJ.out, hB3.out⟩
          case measure => simp [intOf]; omega
    · obtain rfl : k = m + 1 := by omega
      go_wp2
      go_ret
      exact ⟨g, rfl, hgw.out, hIB.out, hBL.out⟩

set_option maxHeartbeats 4000000 in
theorem sCountCovers_any (L B : Nat) (A : Option Addr) (c : Nat) (es : List Nd) (w : World) (hl : es.length ≤ 1048576) (hes : NS w L B A es) (hB : B ≤ w.heap.size) :
    Calls Try.prog 47 #[.slice A es.length c] w (IntRes w (ccR es) (treeR es)) := by
  have H := Lib.hid (cvTree_any L B A c es w hl hes hB)
  cases ht : treeR es
  · have hR := Lib.hid (show ccR es = 0 by unfold ccR; rw [if_neg (by rw [ht]; decide)])
    rw [ht] at H
    clear ht
    go_enter Try.func47, Try.ntmps47
    go_wp2_with (go_at_call 78; refine H.out.mono ?_; rintro e w1 ⟨rfl, hb1⟩; have hbh := Lib.hid hb1; clear hb1)
    go_ret2
    exact ⟨by rw [hR.out]; rfl, hbh.out⟩
  have hR := Lib.hid (show ccR es = (ccTo es es.length).getD (es.length - 1) 0 by unfold ccR; rw [if_pos ht])
  have hl1 : 1 ≤ es.length := by unfold treeR at ht; simp only [Bool.and_eq_true] at ht; exact (good_len ht.1).1
  have hl24 : es.length ≤ 24 := by unfold treeR at ht; simp only [Bool.and_eq_true] at ht; exact (good_len ht.1).2.1
  have H2 := Lib.hid fun (W : World) (hW : Below w.heap.size w W) => cvCounts_any L B A c es W ht (hes.below hW hB) (Nat.le_trans hB hW.size)
  have hcl := ccTo_len es es.length
  rw [ht] at H
  clear ht hes hB
  generalize ccTo es es.length = cs at *
  generalize ccR es = res at *
  generalize es.length = n at *
  obtain ⟨m, rfl⟩ : ∃ m, n = m + 1 := ⟨n - 1, by omega⟩
  rw [Nat.add_sub_cancel] at hR
  have hm0 : (0 : Int) ≤ (m : Int) := by omega
  have hm1 : (m : Int) < (m : Int) + 1 := by omega
  have hmw : IntKind.i64.wrap (m : Int) = (m : Int) := by rw [IntKind.wrap_i64]; omega
  go_enter Try.func47, Try.ntmps47
  go_wp2_with (fail)
  refine H.out.mono ?_
  rintro e w1 ⟨rfl, hb1⟩
  have hbh := Lib.hid hb1
  clear hb1
  go_wp2_with (fail)
  refine (H2.out _ hbh.out).mono ?_
  rintro e w2 ⟨g, rfl, _, hib, hb2⟩
  have hbi := Lib.hid (hbh.out.trans (hb2.mono hbh.out.size))
  have y := hib.cell m (by omega)
  rw [show cs[m]'(by omega) = cs.getD m 0 from (getD_get (by omega)).symm] at y
  clear hib hb2 hcl
  generalize cs.getD m 0 = rr at *
  go_wp2
  go_ret2
  exact ⟨by rw [hR.out]; rfl, hbi.out⟩
end Go.Proofs.Ytdleiondfhmjdaa

/- Prices of the model. -/
namespace Go.Proofs.Ytdleiondfhmjdaa
open Go.RowKit
set_option linter.unusedVariables false
set_option maxRecDepth 100000

set_option maxHeartbeats 8000000 in
theorem cvWith_any (L B P PB : Nat) (A PA : Option Addr) (c pc : Nat) (es : List Nd) (cs : List Int) (k : Nat) (hk : k < es.length) (x : Ti) (hx : x ∈ tsN es k) (w : World) (hok : okFrom es 0 = true) (hes : NS w L B A es) (hB : B ≤ w.heap.size) (hcs : IS w P PB PA cs) (hPB : PB ≤ w.heap.size) (hl : cs.length = es.length) :
    Calls Try.prog 125 #[.slice A es.length c, .int .i64 (k : Int), .int .i64 x.num, .slice PA es.length pc] w fun e w' => e = .returned (.int .i64 (wcT cs x)) ∧ Below w.heap.size w w' := by
  obtain ⟨t, ht, he, hc, hm⟩ := tsN_c hk hx
  have H1 := Lib.hid (show Calls Try.prog 77 #[.slice A es.length c, .int .i64 (k : Int), .int .i64 (t : Int)] w fun e w' => e = .returned (.int .i64 x.c) ∧ w = w' from by rw [hc]; exact cvCost_any L B A c es k t hk w hes)
  have H2 := Lib.hid (show Calls Try.prog 73 #[.slice A es.length c, .int .i64 (k : Int), .int .i64 (t : Int)] w (TileM w (some x)) from by rw [← hm]; exact cvTile_n L B A c es k hk t ht w hes hB hok)
  have hps := Lib.hid (tsN_ps hok hk x hx)
  have hp2 := tsN_ps2 x hx
  have HC := Lib.hid fun (W : World) (hW : Below w.heap.size w W) => hcs.below hW hPB
  have hll := Lib.hid hl
  have hR : Hid (wcT cs x = wcTo x.c cs x.ps x.ps.length) := rfl
  rw [he]
  clear hes hcs hc hm hok he hx
  generalize wcT cs x = R at *
  obtain ⟨xn, ps, ins, xc⟩ := x
  dsimp only at H1 hps hp2 hR
  generalize es.length = n at *
  go_enter Try.func125, Try.ntmps125
  go_wp2_with (first | (go_at_call 77; refine H1.out.mono ?_; rintro e w1 ⟨rfl, rfl⟩) | (go_at_call 73; refine H2.out.mono ?_; rintro e w2 ⟨QA, qc, ZA, zc, rfl, hp, _, hb2⟩; dsimp only [Option.map_some, Option.getD_some, Option.isSome_some] at hp ⊢; have hpr := Lib.hid hp.rs; have hB2 := Lib.hid hb2; clear hp hb2))
  go_loop [9, 29] (fun cq q => ∃ t : Nat, t ≤ ps.length ∧ q = .int .i64 t ∧ cq = .int .i64 (wcTo xc cs ps t)) (fun _ q => ps.length - (intOf q).toNat)
  case atStart => exact ⟨0, Nat.zero_le _, rfl, rfl⟩
  case round =>
    obtain ⟨t, ht, rfl, rfl⟩ := hrel
    by_cases hltt : t < ps.length
    · obtain ⟨pb, po, rfl, _, hcc⟩ := hpr.out (by omega)
      have y1 := hcc t hltt
      have hpt := hps.out ps[t] (List.getElem_mem _)
      have hS := Lib.hid (wcTo_succ xc cs hltt)
      clear hcc
      generalize ps[t] = pp at *
      obtain ⟨pn, rfl⟩ := Int.eq_ofNat_of_zero_le hpt.1
      obtain ⟨cb, co, rfl, _, hdd⟩ := HC.out w2 hB2.out (by rw [hll.out]; omega)
      have hpn : pn < n := by omega
      have y2 := hdd pn (by rw [hll.out]; exact hpn)
      rw [show cs[pn]'(by rw [hll.out]; exact hpn) = cs.getD pn 0 from (getD_get (by rw [hll.out]; exact hpn)).symm] at y2
      clear hdd
      have hpm : (pn : Int) < (n : Int) := by omega
      have hpn0 : (0 : Int) ≤ (pn : Int) := by omega
      rw [Int.toNat_natCast] at hS
      generalize cs.getD pn 0 = cp at *
      generalize wcTo xc cs ps t = wt at *
      go_wp2
      go_round
      case rel => exact ⟨t + 1, by omega, by go_num, by rw [hS.out]⟩
      case measure => simp [intOf]; omega
    · obtain rfl : t = ps.length := by omega
      generalize wcTo xc cs ps ps.length = wt at *
      go_wp2
      go_ret
      exact ⟨by rw [hR.out]; rfl, hB2.out⟩

set_option maxHeartbeats 8000000 in
theorem cvPrices_any (L B : Nat) (A : Option Addr) (c : Nat) (es : List Nd) (w : World) (ht : treeR es = true) (hes : NS w L B A es) (hB : B ≤ w.heap.size) :
    Calls Try.prog 87 #[.slice A es.length c] w (fun e w' => ∃ g, e = .returned (.slice (some ⟨g, 0, none⟩) es.length es.length) ∧ w.heap.size ≤ g ∧ IB w' g 3 (prTo es es.length) ∧ Below w.heap.size w w') := by
  have hg : good es = true := by unfold treeR at ht; simp only [Bool.and_eq_true] at ht; exact ht.1
  obtain ⟨hl1, hl24, hok⟩ := good_len hg
  have H2 := Lib.hid fun (k : Nat) (hk : k < es.length) (W : World) (hW : Below w.heap.size w W) => (show Calls Try.prog 80 #[.slice A es.length c, .int .i64 (k : Int)] W (OwnIs W ((tsN es k).map Ti.num)) from by rw [tsN_eq hk, ← numsTo_all]; exact cvTiles_any L B A c es k hk W (hes.below hW hB) (Nat.le_trans hB hW.size) hok)
  have H3 := Lib.hid fun (k : Nat) (hk : k < es.length) (x : Ti) (hx : x ∈ tsN es k) (cs : List Int) (hl : cs.length = es.length) (g : Nat) (W : World) (hi : IB W g 3 cs) (hW : Below w.heap.size w W) =>
    cvWith_any L B g (g + 1) A (some ⟨g, 0, none⟩) c es.length es cs k hk x hx W hok (hes.below hW hB) (Nat.le_trans hB hW.size) hi.toIS hi.lt hl
  have hLn := Lib.hid fun (k : Nat) => (show (tsN es k).length ≤ 13 from tilesL_len _ _)
  have hSc := Lib.hid (prTo_next es)
  have hCl := Lib.hid (prTo_len es)
  have h00 := Lib.hid (prTo_zero es)
  have hmk := run_make_ints es.length (by omega)
  clear ht hg hes hB hok
  generalize tsN es = TS at *
  generalize prTo es = CC at *
  generalize es.length = n at *
  obtain ⟨m, rfl⟩ : ∃ m, n = m + 1 := ⟨n - 1, by omega⟩
  have hcm : ((m + 1 : Nat) : Int) = (m : Int) + 1 := by omega
  rw [hcm] at hmk
  have hT0 : Hid (IB (w.alloc (.cells (intCells (zeros (m + 1))) 3)) w.heap.size 3 (CC 0)) := by rw [h00.out]; exact heap_alloc_new w _
  have b1 := Lib.hid ((Below.refl w.heap.size w).alloc (Nat.le_refl _) (.cells (intCells (zeros (m + 1))) 3))
  go_enter Try.func87, Try.ntmps87
  go_wp2_with (fail)
  obtain ⟨g, hg0⟩ : ∃ g, g = w.heap.size := ⟨_, rfl⟩
  rw [← hg0]
  rw [← hg0] at hT0
  have hgw := Lib.hid (show w.heap.size ≤ g by omega)
  clear hg0
  generalize w.alloc (.cells (intCells (zeros (m + 1))) 3) = W1 at *
  go_loopw [13] (fun q wr => ∃ k : Nat, k ≤ m + 1 ∧ q = .int .i64 k ∧ IB wr g 3 (CC k) ∧ Below w.heap.size w wr) (fun q _ => m + 1 - (intOf q).toNat)
  case atStart => exact ⟨0, Nat.zero_le _, rfl, hT0.out, b1.out⟩
  case round =>
    obtain ⟨k, hk, rfl, hib, hbel⟩ := hrel
    have hIB := Lib.hid hib
    have hBL := Lib.hid hbel
    have hgl := hib.lt
    clear hib hbel
    by_cases hlt : k < m + 1
    · obtain ⟨wo, hwo⟩ : ∃ wo : World, wo = wr := ⟨_, rfl⟩
      rw [← hwo] at hIB hBL hgl ⊢
      clear hwo
      have hki : (k : Int) < (m : Int) + 1 := by omega
      have hC := Lib.hid (H2.out k hlt)
      have hC3 := Lib.hid (H3.out k hlt)
      have hSk := Lib.hid (hSc.out k)
      have hlk := hLn.out k
      have hcl := Lib.hid (hCl.out k)
      generalize TS k = ts at *
      generalize hck : CC (k + 1) = ck' at *
      have hck2 := Lib.hid hck
      clear hck
      generalize CC k = cs at *
      go_wp2_with (fail)
      refine (hC.out _ hBL.out).mono ?_
      rintro e w2 ⟨TA, tc, rfl, hown, hb2⟩
      have hRS := Lib.hid hown.rs
      have hB2 := Lib.hid (hBL.out.trans (hb2.mono hBL.out.size))
      have hI2 := Lib.hid (hIB.out.below hb2 hgl)
      have hg2 := Nat.lt_of_lt_of_le hgl hb2.size
      have hml : (ts.map Ti.num).length = ts.length := List.length_map _
      rw [hml]
      clear hown hb2
      go_wp2_with (fail)
      go_loopw [20] (fun q wr => ∃ j : Nat, j ≤ ts.length ∧ q = .int .i64 j ∧ IB wr g 3 (pcTo k cs ts j) ∧ Chg g (g + 1) w2 wr) (fun q _ => ts.length - (intOf q).toNat)
      case atStart => exact ⟨0, Nat.zero_le _, rfl, hI2.out, Chg.refl _ _ _⟩
      case round =>
        obtain ⟨j, hj, rfl, hib, hch⟩ := hrel
        have hIJ := Lib.hid hib
        have hCJ := Lib.hid hch
        have hgr := hib.lt
        clear hib hch
        by_cases hltj : j < ts.length
        · obtain ⟨tb, to', rfl, ⟨_, htb⟩, hcc⟩ := (hRS.out.chg hCJ.out (Nat.le_refl _) (.inr hgl)) (by rw [hml]; omega)
          have x1 := hcc j (by rw [hml]; exact hltj)
          rw [List.getElem_map] at x1
          have hcj := Lib.hid (pcTo_len k cs ts j)
          have hBr := below_chg hB2.out hCJ.out hB2.out.size hgw.out
          have hTi := Lib.hid (hC3.out ts[j] (List.getElem_mem _) (pcTo k cs ts j) (by rw [hcj.out, hcl.out]) g wr hIJ.out hBr)
          have hSj := Lib.hid (pcTo_succ k cs hltj)
          have hjh := Lib.hid hltj
          have hji : (j : Int) < (ts.length : Int) := by omega
          have hj13 : j ≤ 13 := by omega
          have hst1 := Lib.hid (pcStep_set (i := k) (j := j) (c := pcTo k cs ts j) (x := ts[j]))
          have hst2 := Lib.hid (pcStep_old (i := k) (j := j) (c := pcTo k cs ts j) (x := ts[j]))
          clear hcc
          generalize wcT (pcTo k cs ts j) ts[j] = wc at *
          generalize hcn : pcTo k cs ts (j + 1) = cn' at *
          have hcn2 := Lib.hid hcn
          clear hcn
          generalize ts[j] = x at *
          generalize pcTo k cs ts j = cj at *
          have hcm2 := Lib.hid hcm
          rw [← hcm] at hki
          go_wp2_with (fail)
          refine hTi.out.mono ?_
          rintro e w3 ⟨rfl, hb3⟩
          have hI3 := Lib.hid (hIJ.out.below hb3 hgr)
          have hC4 := Lib.hid (hCJ.out.trans (Chg.ofBelow hb3))
          have hcl2 : cj.length = m + 1 := by rw [hcj.out, hcl.out]
          have y := hI3.out.cell k (by omega)
          have hf := hI3.out.frozen k
          rw [show cj[k]'(by omega) = cj.getD k 0 from (getD_get (by omega)).symm] at y
          have hIs := Lib.hid fun v => hI3.out.set k v
          have hCs := Lib.hid fun v => hC4.out.setCell (p := ⟨g, k, none⟩) ⟨Nat.le_refl _, Nat.lt_succ_self _⟩ v
          have hk0 : (0 : Int) ≤ (k : Int) := by omega
          have hki2 : (k : Int) < (m : Int) + 1 := by omega
          clear hBr hb3 hTi x1
          by_cases hj0 : j = 0
          · subst hj0
            have hs := Lib.hid (hst1.out (.inl rfl))
            clear hst1 hst2
            go_wp2
            have := hjh.out
            exact ⟨⟨1, by omega, by simp, by have h := hIs.out wc; rw [hcn2.out, hSj.out, hs.out]; exact h, hCs.out _⟩, by simp [intOf]; omega⟩
          · have hji0 : ¬ (j : Int) = 0 := by omega
            have hjb : ((j : Int) == 0) = false := by simpa using hji0
            by_cases hq : wc < cj.getD k 0
            · have hs := Lib.hid (hst1.out (.inr hq))
              clear hst1 hst2
              generalize cj.getD k 0 = old at *
              go_wp2
              have := hjh.out
              exact ⟨⟨j + 1, hjh.out, by go_num, by have h := hIs.out wc; rw [hcn2.out, hSj.out, hs.out]; exact h, hCs.out _⟩, by simp [intOf]; omega⟩
            · have hs := Lib.hid (hst2.out (fun h => h.elim hj0 hq))
              clear hst1 hst2
              generalize cj.getD k 0 = old at *
              go_wp2
              have := hjh.out
              exact ⟨⟨j + 1, hjh.out, by go_num, by rw [hcn2.out, hSj.out, hs.out]; exact hI3.out, hC4.out⟩, by simp [intOf]; omega⟩
        · obtain rfl : j = ts.length := by omega
          have hB3 := Lib.hid (below_chg hB2.out hCJ.out hB2.out.size hgw.out)
          go_wp2
          go_roundw
          case rel => exact ⟨k + 1, by omega, by go_num, by rw [hck2.out, hSk.out]; exact hIJ.out, hB3.out⟩
          case measure => simp [intOf]; omega
    · obtain rfl : k = m + 1 := by omega
      go_wp2
      go_ret
      exact ⟨g, rfl, hgw.out, hIB.out, hBL.out⟩
end Go.Proofs.Ytdleiondfhmjdaa

/- PricesOf of the model. -/
namespace Go.Proofs.Ytdleiondfhmjdaa
open Go.RowKit
set_option linter.unusedVariables false
set_option maxRecDepth 100000

set_option maxHeartbeats 4000000 in
theorem sPricesOf_any (L B : Nat) (A : Option Addr) (c : Nat) (es : List Nd) (w : World) (hl : es.length ≤ 1048576) (hes : NS w L B A es) (hB : B ≤ w.heap.size) :
    Calls Try.prog 45 #[.slice A es.length c] w (IntsRes w (pricesR es) (treeR es)) := by
  have H := Lib.hid (cvTree_any L B A c es w hl hes hB)
  have H2 := Lib.hid fun (ht : treeR es = true) (W : World) (hW : Below w.heap.size w W) => cvPrices_any L B A c es W ht (hes.below hW hB) (Nat.le_trans hB hW.size)
  have hPl := pricesR_len es
  have hpl := Lib.hid (prTo_len es es.length)
  clear hes hB
  cases ht : treeR es
  · have hR := Lib.hid (show pricesR es = [] by unfold pricesR; rw [if_neg (by rw [ht]; simp)])
    rw [ht] at H
    clear ht H2
    go_enter Try.func45, Try.ntmps45
    go_wp2_with (go_at_call 78; refine H.out.mono ?_; rintro e w1 ⟨rfl, hb1⟩; have hbh := Lib.hid hb1; clear hb1)
    go_ret2
    rw [hR.out]
    exact ⟨none, 0, rfl, OW.nil _ _ _, hbh.out⟩
  have hR := Lib.hid (show pricesR es = prTo es es.length by unfold pricesR; rw [if_pos ht])
  rw [ht] at H
  have H3 := Lib.hid (H2.out ht)
  clear ht H2
  generalize pricesR es = R at *
  generalize prTo es es.length = P at *
  generalize es.length = n at *
  go_enter Try.func45, Try.ntmps45
  go_wp2_with (first | (go_at_call 78; refine H.out.mono ?_; rintro e w1 ⟨rfl, hb1⟩; have hbh := Lib.hid hb1; clear hb1) | (go_at_call 87; refine (H3.out _ hbh.out).mono ?_; rintro e w2 ⟨g, rfl, hgw, hib, hb2⟩; have hgw2 := Lib.hid hgw; have hI := Lib.hid hib; have hbi := Lib.hid (hbh.out.trans (hb2.mono hbh.out.size)); clear hb2 hib hgw))
  go_ret2
  have hO := OW.ofIB' (lo := w.heap.size) (hi := w2.heap.size) hI.out (by rw [hpl.out]; omega) (Nat.le_trans hbh.out.size hgw2.out) hI.out.lt
  refine ⟨_, _, ?_, by rw [hR.out]; exact hO, hbi.out⟩
  rw [hR.out, hpl.out]; rfl
end Go.Proofs.Ytdleiondfhmjdaa

/- PricesOf of the program. -/
namespace Go.Proofs.Ytdleiondfhmjdaa
open Go.RowKit
set_option linter.unusedVariables false
set_option maxRecDepth 100000

def cpyTo (P : List Int) (n k : Nat) : List Int := P.take k ++ zeros (n - k)
theorem cpyTo_zero (P : List Int) (n : Nat) : cpyTo P n 0 = zeros n := by simp [cpyTo]
theorem cpyTo_all {P : List Int} {n : Nat} (h : P.length = n) : cpyTo P n n = P := by simp [cpyTo, ← h, zeros]
theorem cpyTo_succ {P : List Int} {n k : Nat} (h : P.length = n) (hk : k < n) : cpyTo P n (k + 1) = (cpyTo P n k).set k (P.getD k 0) := by
  have hk' : k < P.length := by omega
  unfold cpyTo
  have e : zeros (n - k) = 0 :: zeros (n - (k + 1)) := by
    obtain ⟨d, hd⟩ : ∃ d, n - k = d + 1 := ⟨n - k - 1, by omega⟩
    rw [hd, show n - (k + 1) = d by omega]; rfl
  rw [e, List.set_append_right _ _ (by simp; omega), List.length_take, Nat.min_eq_left (by omega), Nat.sub_self, List.set_cons_zero, List.take_succ_eq_append_getElem hk', List.append_assoc, ← getD_get hk']
  rfl
theorem cpyTo_len {P : List Int} {n k : Nat} (h : P.length = n) (hk : k ≤ n) : (cpyTo P n k).length = n := by simp [cpyTo, zeros]; omega
set_option maxHeartbeats 4000000 in
theorem iPricesOf_any (L B : Nat) (A : Option Addr) (c : Nat) (es : List Nd) (w : World) (hl : es.length ≤ 1048576) (hes : NS w L B A es) (hB : B ≤ w.heap.size) :
    Calls Try.prog 46 #[.slice A es.length c] w (IntsRes w (pricesR es) (treeR es)) := by
  have H := Lib.hid (iIsTree_any L B A c es w hl hes hB)
  have H2 := Lib.hid fun (ht : treeR es = true) (W : World) (hW : Below w.heap.size w W) => leastCosts_any L B A c es W ht (hes.below hW hB) (Nat.le_trans hB hW.size)
  have hpl := Lib.hid (prTo_len es es.length)
  clear hes hB
  cases ht : treeR es
  · have hR := Lib.hid (show pricesR es = [] by unfold pricesR; rw [if_neg (by rw [ht]; simp)])
    rw [ht] at H
    clear ht H2
    go_enter Try.func46, Try.ntmps46
    go_wp2_with (go_at_call 81; refine H.out.mono ?_; rintro e w1 ⟨rfl, hb1⟩; have hbh := Lib.hid hb1; clear hb1)
    go_ret2
    rw [hR.out]
    exact ⟨none, 0, rfl, OW.nil _ _ _, hbh.out⟩
  have hR := Lib.hid (show pricesR es = prTo es es.length by unfold pricesR; rw [if_pos ht])
  rw [ht] at H
  have H3 := Lib.hid (H2.out ht)
  have hmk := run_make_ints es.length (by omega)
  clear ht H2
  generalize pricesR es = R at *
  generalize prTo es es.length = P at *
  generalize good es = gd at *
  generalize es.length = n at *
  go_enter Try.func46, Try.ntmps46
  go_wp2_with (first | (go_at_call 81; refine H.out.mono ?_; rintro e w1 ⟨rfl, hb1⟩; have hbh := Lib.hid hb1; clear hb1) | (go_at_call 88; refine (H3.out _ hbh.out).mono ?_; rintro e w2 ⟨b, m, f, rfl, hmp, hff, hb2⟩; have hMP := Lib.hid hmp; have hFF := Lib.hid hff; have hbi := Lib.hid (hbh.out.trans (hb2.mono hbh.out.size)); have hb3 := Lib.hid ((Below.refl w2.heap.size w2).alloc (Nat.le_refl _) (.cells (intCells (zeros n)) 3)); have hT0 : Hid (IB (w2.alloc (.cells (intCells (zeros n)) 3)) w2.heap.size 3 (cpyTo P n 0)) := (by rw [cpyTo_zero]; exact heap_alloc_new w2 _); clear hb2 hmp hff))
  obtain ⟨g, hg0⟩ : ∃ g, g = w2.heap.size := ⟨_, rfl⟩
  rw [← hg0] at hT0 ⊢
  have hgw := Lib.hid (show w.heap.size ≤ g by have := hbi.out.size; omega)
  have hgz := Lib.hid hg0
  clear hg0 hmk
  generalize w2.alloc (.cells (intCells (zeros n)) 3) = W1 at *
  go_loopw [23] (fun q wr => ∃ k : Nat, k ≤ n ∧ q = .int .i64 k ∧ IB wr g 3 (cpyTo P n k) ∧ Below w2.heap.size w2 wr) (fun q _ => n - (intOf q).toNat)
  case atStart => exact ⟨0, Nat.zero_le _, rfl, hT0.out, hb3.out⟩
  case round =>
    obtain ⟨k, hk, rfl, hib, hbel⟩ := hrel
    have hIB := Lib.hid hib
    have hBJ := Lib.hid hbel
    have hgl := hib.lt
    by_cases hlt : k < n
    · have hki : (k : Int) < (n : Int) := by omega
      have hk0 : (0 : Int) ≤ (k : Int) := by omega
      have hM := hMP.out.next hbel
      have hlk := hM.look (i := (k : Int)) (by omega) (by omega)
      rw [hFF.out k hlt] at hlk
      have hcl := cpyTo_len hpl.out hk
      have y := hib.cell k (by omega)
      have hf := hib.frozen k
      have hS := Lib.hid (cpyTo_succ hpl.out hlt)
      have hIs := Lib.hid fun v => hIB.out.set k v
      have hjh := Lib.hid hlt
      generalize (cpyTo P n k)[k]'(by omega) = old at *
      clear hM hib hbel
      generalize P.getD k 0 = v at *
      go_wp2
      have := hjh.out
      have hs := hIs.out v
      rw [← hS.out] at hs
      exact ⟨⟨k + 1, hjh.out, by go_num, hs, hBJ.out.setCell (p := ⟨g, k, none⟩) (by show w2.heap.size ≤ g; have := hgz.out; omega) _⟩, by simp [intOf]; omega⟩
    · obtain rfl : k = n := by omega
      rw [cpyTo_all hpl.out] at hib
      have hO := Lib.hid (OW.ofIB' (lo := w.heap.size) (hi := wr.heap.size) hib (by rw [hpl.out]; omega) hgw.out hib.lt)
      have hBe := Lib.hid (hbi.out.trans (hbel.mono hbi.out.size))
      clear hib hbel
      go_wp2
      go_ret2
      refine ⟨_, _, ?_, by rw [hR.out]; exact hO.out, hBe.out⟩
      rw [hR.out, hpl.out]; rfl

theorem sPricesOf_k (L B : Nat) (A : Option Addr) (c : Nat) (es : List Nd) (w : World) (hl : es.length ≤ 1048576) (hes : RS Nd.enc 4 w L B A es) (hB : B ≤ w.heap.size) :
    Calls Try.prog 45 #[.slice A es.length c] w (ResPricesOf (pricesR es) (treeR es) w) := sPricesOf_any L B A c es w hl hes.ns hB
theorem iPricesOf_k (L B : Nat) (A : Option Addr) (c : Nat) (es : List Nd) (w : World) (hl : es.length ≤ 1048576) (hes : RS Nd.enc 4 w L B A es) (hB : B ≤ w.heap.size) :
    Calls Try.prog 46 #[.slice A es.length c] w (ResPricesOf (pricesR es) (treeR es) w) := iPricesOf_any L B A c es w hl hes.ns hB
end Go.Proofs.Ytdleiondfhmjdaa

/- Arguments of the types []laws.Instr, laws.Instr and []int opened. -/
namespace Go.Proofs.Ytdleiondfhmjdaa
open Go.ChangeShapes Go.WideShapes Go.ChangeAt Go.RowKit Go.Deep
open Go.ChangeMaps (open_string shut_string)
set_option linter.unusedVariables false

theorem cellsIn : Try.prog.cellsOf 67 = 5 := by kernel_rfl
theorem cellsStr : Try.prog.cellsOf 9 = 1 := by kernel_rfl
theorem cellsInt : Try.prog.cellsOf 3 = 1 := by kernel_rfl

set_option maxRecDepth 100000 in
theorem in_of_trod {H : Type} {enc : TypeId × Value → H} {w : World} {base : Nat} {spare : Nat → Bool} {held : Bool} {n : Nat} {cs : List Value} {x : DataW H × List MemPlace}
    (h : DataW.trod enc Try.prog w base spare held n 67 cs = some x) : ∃ nd : In, cs = nd.enc ∧ nd.op.size ≤ maxLen := by
  obtain ⟨xs, m, _, _, hlen, hxl, hf⟩ := DataW.trod_struct Try.underlying67 h
  rw [cellsIn] at hlen
  match cs, hlen with
  | [c0, c1, c2, c3, c4], _ =>
    match xs, hxl with
    | [y0, y1, y2, y3, y4], _ =>
      have h0 := hf 0 _ rfl
      change DataW.trod enc Try.prog w base spare held m 9 (([c0, c1, c2, c3, c4].drop 0).take (Try.prog.cellsOf 9)) = _ at h0
      rw [cellsStr] at h0
      have h1 := hf 1 _ rfl
      change DataW.trod enc Try.prog w base spare held m 3 (([c0, c1, c2, c3, c4].drop 1).take (Try.prog.cellsOf 3)) = _ at h1
      rw [cellsInt] at h1
      have h2 := hf 2 _ rfl
      change DataW.trod enc Try.prog w base spare held m 3 (([c0, c1, c2, c3, c4].drop 2).take (Try.prog.cellsOf 3)) = _ at h2
      rw [cellsInt] at h2
      have h3 := hf 3 _ rfl
      change DataW.trod enc Try.prog w base spare held m 3 (([c0, c1, c2, c3, c4].drop 3).take (Try.prog.cellsOf 3)) = _ at h3
      rw [cellsInt] at h3
      have h4 := hf 4 _ rfl
      change DataW.trod enc Try.prog w base spare held m 3 (([c0, c1, c2, c3, c4].drop 4).take (Try.prog.cellsOf 3)) = _ at h4
      rw [cellsInt] at h4
      obtain ⟨s, e0, _, hs⟩ := DataW.trod_string Try.underlying9 h0
      obtain ⟨d, e1, _, _⟩ := DataW.trod_int Try.underlying3 h1
      obtain ⟨a, e2, _, _⟩ := DataW.trod_int Try.underlying3 h2
      obtain ⟨b, e3, _, _⟩ := DataW.trod_int Try.underlying3 h3
      obtain ⟨m, e4, _, _⟩ := DataW.trod_int Try.underlying3 h4
      have e0 : c0 = .string s := by simpa using e0
      have e1 : c1 = .int .i64 d := by simpa using e1
      have e2 : c2 = .int .i64 a := by simpa using e2
      have e3 : c3 = .int .i64 b := by simpa using e3
      have e4 : c4 = .int .i64 m := by simpa using e4
      exact ⟨⟨s, d, a, b, m⟩, by rw [e0, e1, e2, e3, e4]; rfl, hs⟩

theorem cell_lt_heap {w : World} {a : Addr} {v : Value} (h : w.cell? a = some v) : a.block < w.heap.size := by
  rcases Nat.lt_or_ge a.block w.heap.size with hlt | hge
  · exact hlt
  · unfold World.cell? at h; rw [Array.getElem?_eq_none hge] at h; simp at h

set_option maxRecDepth 100000 in
theorem x_of_trod {H : Type} {enc : TypeId × Value → H} {w : World} {r : Reach} {b0 : Nat} {spare : Nat → Bool} {held : Bool} {v : Value} {d : DataW H} {p : List MemPlace}
    (hv : Value.okWide Try.prog w r b0 67 v) (h : DataW.Trod enc Try.prog w 0 spare held 67 v d p) :
    ∃ x : In, v = .agg #[.string x.op, .int .i64 x.d, .int .i64 x.a, .int .i64 x.b, .int .i64 x.m] ∧ x.op.size ≤ 9223372036854775807 := by
  obtain ⟨cs, rfl, hsz⟩ := okWide_struct Try.underlying67 hv
  obtain ⟨fuel, hf⟩ := h
  obtain ⟨x, hx, hs⟩ := in_of_trod hf
  refine ⟨x, ?_, by unfold maxLen at hs; omega⟩
  obtain ⟨l⟩ := cs
  have hx' : l = x.enc := by simpa [Value.cells] using hx
  subst hx'; rfl

set_option maxRecDepth 100000 in
theorem ins_of_trod {H : Type} {enc : TypeId × Value → H} {w : World} {spare : Nat → Bool} {held : Bool} {A : Option Addr} {len cap : Nat} {d : DataW H} {p : List MemPlace}
    (h : DataW.Trod enc Try.prog w 0 spare held 22 (.slice A len cap) d p) :
    ∃ es : List In, es.length = len ∧ RS In.enc 5 w 0 w.heap.size A es ∧ (∀ n ∈ es, n.op.size ≤ 9223372036854775807) ∧ len ≤ 9223372036854775807 := by
  obtain ⟨fuel, hf⟩ := h
  rcases open_slice Try.underlying22 hf with ⟨hcs, _⟩ | ⟨a, l, c, m, n, D, Pl, hcs, _, hl, hm, hmm, _, hi⟩
  · simp [Value.cells] at hcs
    obtain ⟨rfl, rfl, rfl⟩ := hcs
    exact ⟨[], rfl, fun h => absurd h (by simp), (fun n hn => by cases hn), by omega⟩
  · simp [Value.cells] at hcs
    obtain ⟨rfl, rfl, rfl⟩ := hcs
    have hlm : len ≤ m := by rw [hmm]; split <;> omega
    have hex : ∀ i, i < len → ∃ nd : In, (∀ j v, nd.enc[j]? = some v → w.cell? (a.add (i * 5 + j)) = some v) ∧ nd.op.size ≤ maxLen := by
      intro i hil
      obtain ⟨cs', hc, ht⟩ := hi i (by omega)
      rw [cellsIn] at hc
      obtain ⟨nd, rfl, hs⟩ := in_of_trod ht
      obtain ⟨_, _, hat⟩ := World.cells?_some hc
      refine ⟨nd, fun j v hv => ?_, hs⟩
      have hj : j < 5 := kflat_lt In.hk hv
      have := hat j hj
      rw [add_add, hv] at this; exact this
    obtain ⟨f, hf2⟩ := Classical.axiomOfChoice (fun i : {i // i < len} => hex i.1 i.2)
    have hget : ∀ i (h : i < (List.ofFn fun i : Fin len => f ⟨i.1, i.2⟩).length), (List.ofFn fun i : Fin len => f ⟨i.1, i.2⟩)[i] = f ⟨i, by simpa using h⟩ := fun i h => by simp
    refine ⟨List.ofFn fun i : Fin len => f ⟨i.1, i.2⟩, by simp, ?_, ?_, by unfold maxLen at hm; omega⟩
    · intro hpos
      have hpos' : 0 < len := by simpa using hpos
      have h0 := (hf2 ⟨0, hpos'⟩).1 0 _ rfl
      obtain ⟨b, o, spot⟩ := a
      have hspot : spot = none := by have := World.cell?_spot h0; simpa [Addr.add] using this
      subst hspot
      have hadd : ∀ k, (⟨b, o, none⟩ : Addr).add k = ⟨b, o + k, none⟩ := fun k => by simp [Addr.add]
      refine ⟨b, o, rfl, ⟨Nat.zero_le _, ?_⟩, fun i hi j v hv => ?_⟩
      · rw [hadd] at h0
        exact cell_lt_heap h0
      · have hi' : i < len := by simpa using hi
        rw [hget i hi] at hv
        have := (hf2 ⟨i, hi'⟩).1 j v hv
        simp only [hadd, ← Nat.add_assoc] at this
        exact this
    · intro n hn
      obtain ⟨i, rfl⟩ := List.mem_ofFn.1 hn
      have := (hf2 ⟨i.1, i.2⟩).2
      unfold maxLen at this; omega

set_option maxRecDepth 100000 in
theorem ints_of_trod {H : Type} {enc : TypeId × Value → H} {w : World} {spare : Nat → Bool} {held : Bool} {A : Option Addr} {len cap : Nat} {d : DataW H} {p : List MemPlace}
    (h : DataW.Trod enc Try.prog w 0 spare held 23 (.slice A len cap) d p) :
    ∃ xs : List Int, xs.length = len ∧ IS w 0 w.heap.size A xs ∧ len ≤ 9223372036854775807 := by
  obtain ⟨fuel, hf⟩ := h
  rcases open_slice Try.underlying23 hf with ⟨hcs, _⟩ | ⟨a, l, c, m, n, D, Pl, hcs, _, hl, hm, hmm, _, hi⟩
  · simp [Value.cells] at hcs
    obtain ⟨rfl, rfl, rfl⟩ := hcs
    exact ⟨[], rfl, fun h => absurd h (by simp), by omega⟩
  · simp [Value.cells] at hcs
    obtain ⟨rfl, rfl, rfl⟩ := hcs
    have hlm : len ≤ m := by rw [hmm]; split <;> omega
    have hex : ∀ i, i < len → ∃ x : Int, w.cell? (a.add i) = some (.int .i64 x) := by
      intro i hil
      obtain ⟨cs', hc, ht⟩ := hi i (by omega)
      rw [cellsInt, Nat.mul_one] at hc
      obtain ⟨x, hx, _, _⟩ := DataW.trod_int Try.underlying3 ht
      obtain ⟨_, _, hat⟩ := World.cells?_some hc
      have := hat 0 (by omega)
      rw [add_add, hx] at this
      exact ⟨x, by simpa using this⟩
    obtain ⟨f, hf2⟩ := Classical.axiomOfChoice (fun i : {i // i < len} => hex i.1 i.2)
    have hget : ∀ i (h : i < (List.ofFn fun i : Fin len => f ⟨i.1, i.2⟩).length), (List.ofFn fun i : Fin len => f ⟨i.1, i.2⟩)[i] = f ⟨i, by simpa using h⟩ := fun i h => by simp
    refine ⟨List.ofFn fun i : Fin len => f ⟨i.1, i.2⟩, by simp, ?_, by unfold maxLen at hm; omega⟩
    intro hpos
    have hpos' : 0 < len := by simpa using hpos
    have h0 := hf2 ⟨0, hpos'⟩
    obtain ⟨b, o, spot⟩ := a
    have hspot : spot = none := by have := World.cell?_spot h0; simpa [Addr.add] using this
    subst hspot
    have hadd : ∀ k, (⟨b, o, none⟩ : Addr).add k = ⟨b, o + k, none⟩ := fun k => by simp [Addr.add]
    refine ⟨b, o, rfl, ⟨Nat.zero_le _, ?_⟩, fun i hi => ?_⟩
    · rw [hadd] at h0
      exact cell_lt_heap h0
    · have hi' : i < len := by simpa using hi
      rw [hget i hi]
      have := hf2 ⟨i, hi'⟩
      simp only [hadd] at this
      exact this
end Go.Proofs.Ytdleiondfhmjdaa

/- An argument of type []laws.Node opened as a list of nodes. -/
namespace Go.Proofs.Ytdleiondfhmjdaa
open Go.ChangeShapes Go.WideShapes Go.ChangeAt Go.RowKit Go.Deep
open Go.ChangeMaps (open_string shut_string)
set_option linter.unusedVariables false
set_option maxRecDepth 100000

theorem cellsNode : Try.prog.cellsOf 84 = 4 := by kernel_rfl

theorem node_of_trod {H : Type} {enc : TypeId × Value → H} {w : World} {base : Nat} {spare : Nat → Bool} {held : Bool} {n : Nat} {cs : List Value} {x : DataW H × List MemPlace}
    (h : DataW.trod enc Try.prog w base spare held n 84 cs = some x) : ∃ nd : Nd, cs = nd.cells ∧ nd.op.size ≤ maxLen := by
  obtain ⟨xs, m, _, _, hlen, hxl, hf⟩ := DataW.trod_struct Try.underlying84 h
  rw [cellsNode] at hlen
  match cs, hlen with
  | [c0, c1, c2, c3], _ =>
    match xs, hxl with
    | [y0, y1, y2, y3], _ =>
      have h0 := hf 0 _ rfl
      change DataW.trod enc Try.prog w base spare held m 9 (([c0, c1, c2, c3].drop 0).take (Try.prog.cellsOf 9)) = _ at h0
      rw [cellsStr] at h0
      have h1 := hf 1 _ rfl
      change DataW.trod enc Try.prog w base spare held m 3 (([c0, c1, c2, c3].drop 1).take (Try.prog.cellsOf 3)) = _ at h1
      rw [cellsInt] at h1
      have h2 := hf 2 _ rfl
      change DataW.trod enc Try.prog w base spare held m 3 (([c0, c1, c2, c3].drop 2).take (Try.prog.cellsOf 3)) = _ at h2
      rw [cellsInt] at h2
      have h3 := hf 3 _ rfl
      change DataW.trod enc Try.prog w base spare held m 3 (([c0, c1, c2, c3].drop 3).take (Try.prog.cellsOf 3)) = _ at h3
      rw [cellsInt] at h3
      obtain ⟨s, e0, _, hs⟩ := DataW.trod_string Try.underlying9 h0
      obtain ⟨a, e1, _, _⟩ := DataW.trod_int Try.underlying3 h1
      obtain ⟨b, e2, _, _⟩ := DataW.trod_int Try.underlying3 h2
      obtain ⟨v, e3, _, _⟩ := DataW.trod_int Try.underlying3 h3
      have e0 : c0 = .string s := by simpa using e0
      have e1 : c1 = .int .i64 a := by simpa using e1
      have e2 : c2 = .int .i64 b := by simpa using e2
      have e3 : c3 = .int .i64 v := by simpa using e3
      exact ⟨⟨s, a, b, v⟩, by rw [e0, e1, e2, e3]; rfl, hs⟩

theorem nodes_of_trod_ns {H : Type} {enc : TypeId × Value → H} {w : World} {spare : Nat → Bool} {held : Bool} {A : Option Addr} {len cap : Nat} {d : DataW H} {p : List MemPlace}
    (h : DataW.Trod enc Try.prog w 0 spare held 38 (.slice A len cap) d p) :
    ∃ es : List Nd, es.length = len ∧ NS w 0 w.heap.size A es ∧ (∀ n ∈ es, n.op.size ≤ 9223372036854775807) ∧ len ≤ 9223372036854775807 := by
  obtain ⟨fuel, hf⟩ := h
  rcases open_slice Try.underlying38 hf with ⟨hcs, _⟩ | ⟨a, l, c, m, n, D, Pl, hcs, _, hl, hm, hmm, _, hi⟩
  · simp [Value.cells] at hcs
    obtain ⟨rfl, rfl, rfl⟩ := hcs
    exact ⟨[], rfl, fun h => absurd h (by simp), (fun n hn => by cases hn), by omega⟩
  · simp [Value.cells] at hcs
    obtain ⟨rfl, rfl, rfl⟩ := hcs
    have hlm : len ≤ m := by rw [hmm]; split <;> omega
    have hex : ∀ i, i < len → ∃ nd : Nd, (w.cell? (a.add (i * 4)) = some (.string nd.op) ∧ w.cell? (a.add (i * 4 + 1)) = some (.int .i64 nd.a) ∧ w.cell? (a.add (i * 4 + 2)) = some (.int .i64 nd.b) ∧ w.cell? (a.add (i * 4 + 3)) = some (.int .i64 nd.v)) ∧ nd.op.size ≤ maxLen := by
      intro i hil
      obtain ⟨cs', hc, ht⟩ := hi i (by omega)
      rw [cellsNode] at hc
      obtain ⟨nd, rfl, hs⟩ := node_of_trod ht
      obtain ⟨_, _, hat⟩ := World.cells?_some hc
      refine ⟨nd, ⟨?_, ?_, ?_, ?_⟩, hs⟩
      · have := hat 0 (by omega); rw [add_add] at this; exact this
      · have := hat 1 (by omega); rw [add_add] at this; exact this
      · have := hat 2 (by omega); rw [add_add] at this; exact this
      · have := hat 3 (by omega); rw [add_add] at this; exact this
    obtain ⟨f, hf2⟩ := Classical.axiomOfChoice (fun i : {i // i < len} => hex i.1 i.2)
    have hget : ∀ i (h : i < (List.ofFn fun i : Fin len => f ⟨i.1, i.2⟩).length), (List.ofFn fun i : Fin len => f ⟨i.1, i.2⟩)[i] = f ⟨i, by simpa using h⟩ := fun i h => by simp
    refine ⟨List.ofFn fun i : Fin len => f ⟨i.1, i.2⟩, by simp, ?_, ?_, by unfold maxLen at hm; omega⟩
    · intro hpos
      have hpos' : 0 < len := by simpa using hpos
      have h0 := (hf2 ⟨0, hpos'⟩).1.1
      obtain ⟨b, o, spot⟩ := a
      have hspot : spot = none := by have := World.cell?_spot h0; simpa [Addr.add] using this
      subst hspot
      have hadd : ∀ k, (⟨b, o, none⟩ : Addr).add k = ⟨b, o + k, none⟩ := fun k => by simp [Addr.add]
      refine ⟨b, o, rfl, ⟨Nat.zero_le _, ?_⟩, fun i hi => ?_⟩
      · rw [hadd] at h0
        exact cell_lt_heap h0
      · have hi' : i < len := by simpa using hi
        rw [hget i hi]
        have := (hf2 ⟨i, hi'⟩).1
        simp only [hadd, ← Nat.add_assoc] at this
        exact this
    · intro n hn
      obtain ⟨i, rfl⟩ := List.mem_ofFn.1 hn
      have := (hf2 ⟨i.1, i.2⟩).2
      unfold maxLen at this; omega
theorem nodes_of_trod {H : Type} {enc : TypeId × Value → H} {w : World} {spare : Nat → Bool} {held : Bool} {A : Option Addr} {len cap : Nat} {d : DataW H} {p : List MemPlace}
    (h : DataW.Trod enc Try.prog w 0 spare held 38 (.slice A len cap) d p) :
    ∃ es : List Nd, es.length = len ∧ RS Nd.enc 4 w 0 w.heap.size A es ∧ (∀ n ∈ es, n.op.size ≤ 9223372036854775807) ∧ len ≤ 9223372036854775807 := by
  obtain ⟨es, h1, h2, h3⟩ := nodes_of_trod_ns h
  exact ⟨es, h1, h2.rs, h3⟩
end Go.Proofs.Ytdleiondfhmjdaa
