/- Texts of this proof, one behind the other: GT, HA, AA, AB, GV, WB. -/
import Derived.Test.YtgcbfiamhpfkhaaZ3
import Derived.WalkKit
import Derived.WalkSpells
import Derived.WalkLawsBesides
import Derived.Lib.Hide
import Derived.Test.YtgcbfiamhpfkhaaLawEB
import Derived.Test.YtgcbfiamhpfkhaaZ14
import Derived.Maps.OwnOps
import Derived.Maps.OwnSet
import Derived.Maps.Views
import Derived.Test.YtgcbfiamhpfkhaaZ6
import Derived.Test.YtgcbfiamhpfkhaaD2
import Derived.Test.YtgcbfiamhpfkhaaLI
/- Prices of the model. -/
namespace Go.Proofs.Ytgcbfiamhpfkhaa
open Go.RowKit
set_option linter.unusedVariables false
set_option maxRecDepth 100000

set_option maxHeartbeats 8000000 in
theorem cvWith_any (L B P PB : Nat) (A PA : Option Addr) (c pc : Nat) (es : List Nd) (cs : List Int) (k : Nat) (hk : k < es.length) (x : Ti) (hx : x ∈ tsN es k) (w : World) (hok : okFrom es 0 = true) (hes : NS w L B A es) (hB : B ≤ w.heap.size) (hcs : IS w P PB PA cs) (hPB : PB ≤ w.heap.size) (hl : cs.length = es.length) :
    Calls Try.prog 109 #[.slice A es.length c, .int .i64 (k : Int), .int .i64 x.num, .slice PA es.length pc] w fun e w' => e = .returned (.int .i64 (wcT cs x)) ∧ Below w.heap.size w w' := by
  obtain ⟨t, ht, he, hc, hm⟩ := tsN_c hk hx
  have H1 := Lib.hid (show Calls Try.prog 125 #[.slice A es.length c, .int .i64 (k : Int), .int .i64 (t : Int)] w fun e w' => e = .returned (.int .i64 x.c) ∧ w = w' from by rw [hc]; exact cvCost_any L B A c es k t hk w hes)
  have H2 := Lib.hid (show Calls Try.prog 73 #[.slice A es.length c, .int .i64 (k : Int), .int .i64 (t : Int)] w (TileM w (some x)) from by rw [← hm]; exact cvTile_n L B A c es k hk t ht w hes hB hok)
  have hps := Lib.hid (tsN_ps hok hk x hx)
  have hp2 := tsN_ps2 x hx
  have HC := Lib.hid fun (W : World) (hW : Below w.heap.size w W) => hcs.below hW hPB
  have hll := Lib.hid hl
  have hR : Hid (wcT cs x = wcTo x.c cs x.ps x.ps.length) := rfl
  rw [he]
  clear hes hcs hc hm hok he hx
  generalize wcT cs x = R at *
  obtain ⟨xn, ps, ins, xc⟩ := x
  dsimp only at H1 hps hp2 hR
  generalize es.length = n at *
  go_enter Try.func109, Try.ntmps109
  go_wp2_with (first | (go_at_call 125; refine H1.out.mono ?_; rintro e w1 ⟨rfl, rfl⟩) | (go_at_call 73; refine H2.out.mono ?_; rintro e w2 ⟨QA, qc, ZA, zc, rfl, hp, _, hb2⟩; dsimp only [Option.map_some, Option.getD_some, Option.isSome_some] at hp ⊢; have hpr := Lib.hid hp.rs; have hB2 := Lib.hid hb2; clear hp hb2))
  go_loop [9, 29] (fun cq q => ∃ t : Nat, t ≤ ps.length ∧ q = .int .i64 t ∧ cq = .int .i64 (wcTo xc cs ps t)) (fun _ q => ps.length - (intOf q).toNat)
  case atStart => exact ⟨0, Nat.zero_le _, rfl, rfl⟩
  case round =>
    obtain ⟨t, ht, rfl, rfl⟩ := hrel
    by_cases hltt : t < ps.length
    · obtain ⟨pb, po, rfl, _, hcc⟩ := hpr.out (by omega)
      have y1 := hcc t hltt
      have hpt := hps.out ps[t] (List.getElem_mem _)
      have hS := Lib.hid (wcTo_succ xc cs hltt)
      clear hcc
      generalize ps[t] = pp at *
      obtain ⟨pn, rfl⟩ := Int.eq_ofNat_of_zero_le hpt.1
      obtain ⟨cb, co, rfl, _, hdd⟩ := HC.out w2 hB2.out (by rw [hll.out]; omega)
      have hpn : pn < n := by omega
      have y2 := hdd pn (by rw [hll.out]; exact hpn)
      rw [show cs[pn]'(by rw [hll.out]; exact hpn) = cs.getD pn 0 from (getD_get (by rw [hll.out]; exact hpn)).symm] at y2
      clear hdd
      have hpm : (pn : Int) < (n : Int) := by omega
      have hpn0 : (0 : Int) ≤ (pn : Int) := by omega
      rw [Int.toNat_natCast] at hS
      generalize cs.getD pn 0 = cp at *
      generalize wcTo xc cs ps t = wt at *
      go_wp2
      go_round
      case rel => exact ⟨t + 1, by omega, by go_num, by rw [hS.out]⟩
      case measure => simp [intOf]; omega
    · obtain rfl : t = ps.length := by omega
      generalize wcTo xc cs ps ps.length = wt at *
      go_wp2
      go_ret
      exact ⟨by rw [hR.out]; rfl, hB2.out⟩

set_option maxHeartbeats 8000000 in
theorem cvPrices_any (L B : Nat) (A : Option Addr) (c : Nat) (es : List Nd) (w : World) (ht : treeR es = true) (hes : NS w L B A es) (hB : B ≤ w.heap.size) :
    Calls Try.prog 119 #[.slice A es.length c] w (fun e w' => ∃ g, e = .returned (.slice (some ⟨g, 0, none⟩) es.length es.length) ∧ w.heap.size ≤ g ∧ IB w' g 3 (prTo es es.length) ∧ Below w.heap.size w w') := by
  have hg : good es = true := by unfold treeR at ht; simp only [Bool.and_eq_true] at ht; exact ht.1
  obtain ⟨hl1, hl24, hok⟩ := good_len hg
  have H2 := Lib.hid fun (k : Nat) (hk : k < es.length) (W : World) (hW : Below w.heap.size w W) => (show Calls Try.prog 71 #[.slice A es.length c, .int .i64 (k : Int)] W (OwnIs W ((tsN es k).map Ti.num)) from by rw [tsN_eq hk, ← numsTo_all]; exact cvTiles_any L B A c es k hk W (hes.below hW hB) (Nat.le_trans hB hW.size) hok)
  have H3 := Lib.hid fun (k : Nat) (hk : k < es.length) (x : Ti) (hx : x ∈ tsN es k) (cs : List Int) (hl : cs.length = es.length) (g : Nat) (W : World) (hi : IB W g 3 cs) (hW : Below w.heap.size w W) =>
    cvWith_any L B g (g + 1) A (some ⟨g, 0, none⟩) c es.length es cs k hk x hx W hok (hes.below hW hB) (Nat.le_trans hB hW.size) hi.toIS hi.lt hl
  have hLn := Lib.hid fun (k : Nat) => (show (tsN es k).length ≤ 13 from tilesL_len _ _)
  have hSc := Lib.hid (prTo_next es)
  have hCl := Lib.hid (prTo_len es)
  have h00 := Lib.hid (prTo_zero es)
  have hmk := run_make_ints es.length (by omega)
  clear ht hg hes hB hok
  generalize tsN es = TS at *
  generalize prTo es = CC at *
  generalize es.length = n at *
  obtain ⟨m, rfl⟩ : ∃ m, n = m + 1 := ⟨n - 1, by omega⟩
  have hcm : ((m + 1 : Nat) : Int) = (m : Int) + 1 := by omega
  rw [hcm] at hmk
  have hT0 : Hid (IB (w.alloc (.cells (intCells (zeros (m + 1))) 3)) w.heap.size 3 (CC 0)) := by rw [h00.out]; exact heap_alloc_new w _
  have b1 := Lib.hid ((Below.refl w.heap.size w).alloc (Nat.le_refl _) (.cells (intCells (zeros (m + 1))) 3))
  go_enter Try.func119, Try.ntmps119
  go_wp2_with (fail)
  obtain ⟨g, hg0⟩ : ∃ g, g = w.heap.size := ⟨_, rfl⟩
  rw [← hg0]
  rw [← hg0] at hT0
  have hgw := Lib.hid (show w.heap.size ≤ g by omega)
  clear hg0
  generalize w.alloc (.cells (intCells (zeros (m + 1))) 3) = W1 at *
  go_loopw [13] (fun q wr => ∃ k : Nat, k ≤ m + 1 ∧ q = .int .i64 k ∧ IB wr g 3 (CC k) ∧ Below w.heap.size w wr) (fun q _ => m + 1 - (intOf q).toNat)
  case atStart => exact ⟨0, Nat.zero_le _, rfl, hT0.out, b1.out⟩
  case round =>
    obtain ⟨k, hk, rfl, hib, hbel⟩ := hrel
    have hIB := Lib.hid hib
    have hBL := Lib.hid hbel
    have hgl := hib.lt
    clear hib hbel
    by_cases hlt : k < m + 1
    · obtain ⟨wo, hwo⟩ : ∃ wo : World, wo = wr := ⟨_, rfl⟩
      rw [← hwo] at hIB hBL hgl ⊢
      clear hwo
      have hki : (k : Int) < (m : Int) + 1 := by omega
      have hC := Lib.hid (H2.out k hlt)
      have hC3 := Lib.hid (H3.out k hlt)
      have hSk := Lib.hid (hSc.out k)
      have hlk := hLn.out k
      have hcl := Lib.hid (hCl.out k)
      generalize TS k = ts at *
      generalize hck : CC (k + 1) = ck' at *
      have hck2 := Lib.hid hck
      clear hck
      generalize CC k = cs at *
      go_wp2_with (fail)
      refine (hC.out _ hBL.out).mono ?_
      rintro e w2 ⟨TA, tc, rfl, hown, hb2⟩
      have hRS := Lib.hid hown.rs
      have hB2 := Lib.hid (hBL.out.trans (hb2.mono hBL.out.size))
      have hI2 := Lib.hid (hIB.out.below hb2 hgl)
      have hg2 := Nat.lt_of_lt_of_le hgl hb2.size
      have hml : (ts.map Ti.num).length = ts.length := List.length_map _
      rw [hml]
      clear hown hb2
      go_wp2_with (fail)
      go_loopw [20] (fun q wr => ∃ j : Nat, j ≤ ts.length ∧ q = .int .i64 j ∧ IB wr g 3 (pcTo k cs ts j) ∧ Chg g (g + 1) w2 wr) (fun q _ => ts.length - (intOf q).toNat)
      case atStart => exact ⟨0, Nat.zero_le _, rfl, hI2.out, Chg.refl _ _ _⟩
      case round =>
        obtain ⟨j, hj, rfl, hib, hch⟩ := hrel
        have hIJ := Lib.hid hib
        have hCJ := Lib.hid hch
        have hgr := hib.lt
        clear hib hch
        by_cases hltj : j < ts.length
        · obtain ⟨tb, to', rfl, ⟨_, htb⟩, hcc⟩ := (hRS.out.chg hCJ.out (Nat.le_refl _) (.inr hgl)) (by rw [hml]; omega)
          have x1 := hcc j (by rw [hml]; exact hltj)
          rw [List.getElem_map] at x1
          have hcj := Lib.hid (pcTo_len k cs ts j)
          have hBr := below_chg hB2.out hCJ.out hB2.out.size hgw.out
          have hTi := Lib.hid (hC3.out ts[j] (List.getElem_mem _) (pcTo k cs ts j) (by rw [hcj.out, hcl.out]) g wr hIJ.out hBr)
          have hSj := Lib.hid (pcTo_succ k cs hltj)
          have hjh := Lib.hid hltj
          have hji : (j : Int) < (ts.length : Int) := by omega
          have hj13 : j ≤ 13 := by omega
          have hst1 := Lib.hid (pcStep_set (i := k) (j := j) (c := pcTo k cs ts j) (x := ts[j]))
          have hst2 := Lib.hid (pcStep_old (i := k) (j := j) (c := pcTo k cs ts j) (x := ts[j]))
          clear hcc
          generalize wcT (pcTo k cs ts j) ts[j] = wc at *
          generalize hcn : pcTo k cs ts (j + 1) = cn' at *
          have hcn2 := Lib.hid hcn
          clear hcn
          generalize ts[j] = x at *
          generalize pcTo k cs ts j = cj at *
          have hcm2 := Lib.hid hcm
          rw [← hcm] at hki
          go_wp2_with (fail)
          refine hTi.out.mono ?_
          rintro e w3 ⟨rfl, hb3⟩
          have hI3 := Lib.hid (hIJ.out.below hb3 hgr)
          have hC4 := Lib.hid (hCJ.out.trans (Chg.ofBelow hb3))
          have hcl2 : cj.length = m + 1 := by rw [hcj.out, hcl.out]
          have y := hI3.out.cell k (by omega)
          have hf := hI3.out.frozen k
          rw [show cj[k]'(by omega) = cj.getD k 0 from (getD_get (by omega)).symm] at y
          have hIs := Lib.hid fun v => hI3.out.set k v
          have hCs := Lib.hid fun v => hC4.out.setCell (p := ⟨g, k, none⟩) ⟨Nat.le_refl _, Nat.lt_succ_self _⟩ v
          have hk0 : (0 : Int) ≤ (k : Int) := by omega
          have hki2 : (k : Int) < (m : Int) + 1 := by omega
          clear hBr hb3 hTi x1
          by_cases hj0 : j = 0
          · subst hj0
            have hs := Lib.hid (hst1.out (.inl rfl))
            clear hst1 hst2
            go_wp2
            have := hjh.out
            exact ⟨⟨1, by omega, by simp, by have h := hIs.out wc; rw [hcn2.out, hSj.out, hs.out]; exact h, hCs.out _⟩, by simp [intOf]; omega⟩
          · have hji0 : ¬ (j : Int) = 0 := by omega
            have hjb : ((j : Int) == 0) = false := by simpa using hji0
            by_cases hq : wc < cj.getD k 0
            · have hs := Lib.hid (hst1.out (.inr hq))
              clear hst1 hst2
              generalize cj.getD k 0 = old at *
              go_wp2
              have := hjh.out
              exact ⟨⟨j + 1, hjh.out, by go_num, by have h := hIs.out wc; rw [hcn2.out, hSj.out, hs.out]; exact h, hCs.out _⟩, by simp [intOf]; omega⟩
            · have hs := Lib.hid (hst2.out (fun h => h.elim hj0 hq))
              clear hst1 hst2
              generalize cj.getD k 0 = old at *
              go_wp2
              have := hjh.out
              exact ⟨⟨j + 1, hjh.out, by go_num, by rw [hcn2.out, hSj.out, hs.out]; exact hI3.out, hC4.out⟩, by simp [intOf]; omega⟩
        · obtain rfl : j = ts.length := by omega
          have hB3 := Lib.hid (below_chg hB2.out hCJ.out hB2.out.size hgw.out)
          go_wp2
          go_roundw
          case rel => exact ⟨k + 1, by omega, by go_num, by rw [hck2.out, hSk.out]; exact hIJ.out, hB3.out⟩
          case measure => simp [intOf]; omega
    · obtain rfl : k = m + 1 := by omega
      go_wp2
      go_ret
      exact ⟨g, rfl, hgw.out, hIB.out, hBL.out⟩
end Go.Proofs.Ytgcbfiamhpfkhaa

/- Unfair prices: plain, and the model's. -/
namespace Go.Proofs.Ytgcbfiamhpfkhaa
open Go.RowKit
set_option linter.unusedVariables false
set_option maxRecDepth 100000

/-- The first tile of a node that is cheaper than its price. -/
def ufIn (ps : List Int) (k : Nat) (ts : List Ti) : Option Ti := ts.find? (fun x => decide (wcT ps x < ps.getD k 0))
def ufR (es : List Nd) (ps : List Int) : Option (Int × Int) := (List.range es.length).findSome? (fun k => (ufIn ps k (tsN es k)).map (fun x => ((k : Int), x.num)))
theorem ufIn_none {ps : List Int} {k : Nat} {ts : List Ti} (h : ∀ j (hj : j < ts.length), ¬ wcT ps ts[j] < ps.getD k 0) : ufIn ps k ts = none := by
  unfold ufIn
  rw [List.find?_eq_none]
  intro x hx
  obtain ⟨j, hj, rfl⟩ := List.getElem_of_mem hx
  simpa using h j hj
theorem ufIn_some {ps : List Int} {k : Nat} {ts : List Ti} {j : Nat} (hj : j < ts.length) (hq : wcT ps ts[j] < ps.getD k 0) (h : ∀ i (hi : i < ts.length), i < j → ¬ wcT ps ts[i] < ps.getD k 0) : ufIn ps k ts = some ts[j] := by
  unfold ufIn
  rw [List.find?_eq_some_iff_getElem]
  exact ⟨by simpa using hq, j, hj, rfl, fun i hi => by simpa using h i (by omega) hi⟩
theorem ufR_none {es : List Nd} {ps : List Int} (h : ∀ k, k < es.length → ufIn ps k (tsN es k) = none) : ufR es ps = none := by
  unfold ufR
  rw [List.findSome?_eq_none_iff]
  intro k hk
  rw [h k (List.mem_range.1 hk)]; rfl
theorem ufR_some {es : List Nd} {ps : List Int} {k : Nat} (hk : k < es.length) {x : Ti} (hx : ufIn ps k (tsN es k) = some x) (h : ∀ i, i < k → ufIn ps i (tsN es i) = none) : ufR es ps = some ((k : Int), x.num) := by
  unfold ufR
  obtain ⟨d, hd⟩ : ∃ d, es.length = k + (d + 1) := ⟨es.length - k - 1, by omega⟩
  rw [hd, List.range_add, List.findSome?_append]
  have h1 : (List.range k).findSome? (fun k => (ufIn ps k (tsN es k)).map (fun x => ((k : Int), x.num))) = none := by
    rw [List.findSome?_eq_none_iff]
    intro i hi
    rw [h i (List.mem_range.1 hi)]; rfl
  rw [h1, List.range_succ_eq_map, List.map_cons, List.findSome?_cons, Nat.add_zero, hx]
  rfl
def ufV (o : Option (Int × Int)) : Value := .tuple #[.int .i64 (o.map Prod.fst |>.getD 0), .int .i64 (o.map Prod.snd |>.getD 0), .bool o.isSome]

/- cvUnfair of the model: GT's cvPrices_any is the pattern (H2, H3 as there, HN the prices' row; two loops, a return inside): its answer is ufV (ufR es ps). Not yet written: no seat with UnfairAt has been turned. -/
end Go.Proofs.Ytgcbfiamhpfkhaa

/- Unfair prices of the model. -/
namespace Go.Proofs.Ytgcbfiamhpfkhaa
open Go.RowKit
set_option linter.unusedVariables false
set_option maxRecDepth 100000

theorem ufV_none : ufV none = .tuple #[.int .i64 0, .int .i64 0, .bool false] := rfl
theorem ufV_some (a b : Int) : ufV (some (a, b)) = .tuple #[.int .i64 a, .int .i64 b, .bool true] := rfl
set_option maxHeartbeats 8000000 in
theorem cvUnfair_any (L B P PB : Nat) (A PA : Option Addr) (c pc : Nat) (es : List Nd) (cs : List Int) (w : World) (ht : treeR es = true) (hes : NS w L B A es) (hB : B ≤ w.heap.size) (hcs : IS w P PB PA cs) (hPB : PB ≤ w.heap.size) (hl : cs.length = es.length) :
    Calls Try.prog 55 #[.slice A es.length c, .slice PA es.length pc] w (fun e w' => e = .returned (ufV (ufR es cs)) ∧ Below w.heap.size w w') := by
  have hg : good es = true := by unfold treeR at ht; simp only [Bool.and_eq_true] at ht; exact ht.1
  obtain ⟨hl1, hl24, hok⟩ := good_len hg
  have H2 := Lib.hid fun (k : Nat) (hk : k < es.length) (W : World) (hW : Below w.heap.size w W) => (show Calls Try.prog 71 #[.slice A es.length c, .int .i64 (k : Int)] W (OwnIs W ((tsN es k).map Ti.num)) from by rw [tsN_eq hk, ← numsTo_all]; exact cvTiles_any L B A c es k hk W (hes.below hW hB) (Nat.le_trans hB hW.size) hok)
  have H3 := Lib.hid fun (k : Nat) (hk : k < es.length) (x : Ti) (hx : x ∈ tsN es k) (W : World) (hW : Below w.heap.size w W) =>
    cvWith_any L B P PB A PA c pc es cs k hk x hx W hok (hes.below hW hB) (Nat.le_trans hB hW.size) (hcs.below hW hPB) (Nat.le_trans hPB hW.size) hl
  have HN := Lib.hid fun (W : World) (hW : Below w.heap.size w W) => hcs.below hW hPB
  have hLn := Lib.hid fun (k : Nat) => (show (tsN es k).length ≤ 13 from tilesL_len _ _)
  have hll := Lib.hid hl
  have hUN := Lib.hid (ufR_none (es := es) (ps := cs))
  have hUS := Lib.hid fun (k : Nat) (hk : k < es.length) (x : Ti) => ufR_some (es := es) (ps := cs) hk (x := x)
  clear ht hg hes hB hok hcs hl
  generalize ufR es cs = U at *
  generalize tsN es = TS at *
  generalize es.length = n at *
  go_enter Try.func55, Try.ntmps55
  go_wp2_with (fail)
  go_loopw [12] (fun q wr => ∃ k : Nat, k ≤ n ∧ q = .int .i64 k ∧ (∀ i, i < k → ufIn cs i (TS i) = none) ∧ Below w.heap.size w wr) (fun q _ => n - (intOf q).toNat)
  case atStart => exact ⟨0, Nat.zero_le _, rfl, fun i hi => absurd hi (Nat.not_lt_zero _), Below.refl _ _⟩
  case round =>
    obtain ⟨k, hk, rfl, hno, hbel⟩ := hrel
    have hBL := Lib.hid hbel
    have hNO := Lib.hid hno
    clear hbel hno
    by_cases hlt : k < n
    · obtain ⟨wo, hwo⟩ : ∃ wo : World, wo = wr := ⟨_, rfl⟩
      rw [← hwo] at hBL ⊢
      clear hwo
      have hki : (k : Int) < (n : Int) := by omega
      have hk0 : (0 : Int) ≤ (k : Int) := by omega
      have hC := Lib.hid (H2.out k hlt)
      have hC3 := Lib.hid (H3.out k hlt)
      have hlk := hLn.out k
      have hSm := Lib.hid (hUS.out k hlt)
      have hTk : Hid (TS k = TS k) := rfl
      have hkh := Lib.hid hlt
      generalize hts : TS k = ts at *
      have hTs := Lib.hid hts
      clear hts hTk
      go_wp2_with (fail)
      refine (hC.out _ hBL.out).mono ?_
      rintro e w2 ⟨TA, tc, rfl, hown, hb2⟩
      have hRS := Lib.hid hown.rs
      have hB2 := Lib.hid (hBL.out.trans (hb2.mono hBL.out.size))
      have hml : (ts.map Ti.num).length = ts.length := List.length_map _
      rw [hml]
      clear hown hb2
      go_wp2_with (fail)
      go_loopw [19] (fun q wr => ∃ j : Nat, j ≤ ts.length ∧ q = .int .i64 j ∧ (∀ i (hi : i < ts.length), i < j → ¬ wcT cs ts[i] < cs.getD k 0) ∧ Below w2.heap.size w2 wr) (fun q _ => ts.length - (intOf q).toNat)
      case atStart => exact ⟨0, Nat.zero_le _, rfl, fun i hi h => absurd h (Nat.not_lt_zero _), Below.refl _ _⟩
      case round =>
        obtain ⟨j, hj, rfl, hno, hbel⟩ := hrel
        have hBJ := Lib.hid hbel
        have hNJ := Lib.hid hno
        have hBr := Lib.hid (hB2.out.trans (hbel.mono hB2.out.size))
        clear hno hbel
        by_cases hltj : j < ts.length
        · obtain ⟨tb, to', rfl, ⟨_, htb⟩, hcc⟩ := (hRS.out.below hBJ.out (Nat.le_refl _)) (by rw [hml]; omega)
          have x1 := hcc j (by rw [hml]; exact hltj)
          rw [List.getElem_map] at x1
          have hTi := Lib.hid fun (W : World) (hW : Below w.heap.size w W) => (hC3.out ts[j] (List.getElem_mem _) W hW)
          obtain ⟨pb, po, rfl, ⟨_, hpB⟩, hpp⟩ := HN.out wr hBr.out (by rw [hll.out]; omega)
          have y1 := hpp k (by rw [hll.out]; exact hkh.out)
          rw [show cs[k]'(by rw [hll.out]; exact hkh.out) = cs.getD k 0 from (getD_get (by rw [hll.out]; exact hkh.out)).symm] at y1
          have hSj := Lib.hid fun (h : wcT cs ts[j] < cs.getD k 0) => hSm.out ts[j] (by rw [ufIn_some hltj h hNJ.out]) hNO.out
          have hNx := Lib.hid fun (h : ¬ wcT cs ts[j] < cs.getD k 0) => (show ∀ i (hi : i < ts.length), i < j + 1 → ¬ wcT cs ts[i] < cs.getD k 0 from fun i hi hij => by
            rcases Nat.lt_or_ge i j with h' | h'
            · exact hNJ.out i hi h'
            · obtain rfl : i = j := by omega
              exact h)
          have hjh := Lib.hid hltj
          have hji : (j : Int) < (ts.length : Int) := by omega
          have hj0 : (0 : Int) ≤ (j : Int) := by omega
          have hpw : pb < wr.heap.size := by have := hBr.out.size; omega
          have hwd := Lib.hid hBr.out.drew
          have hwd2 := Lib.hid (Below.refl wr.heap.size wr).drew
          clear hcc hpp
          generalize hwcd : wcT cs ts[j] = wc at *
          have hWC := Lib.hid hwcd
          clear hwcd
          generalize hold : cs.getD k 0 = old at *
          have hOLD := Lib.hid hold
          clear hold
          generalize (ts[j]).num = tn at *
          go_wp2_with (fail)
          go_region_held3 (fun w' => w'.cell? ⟨pb, po + k, none⟩ = some (.int .i64 old)) (first | exact (hb3.cell (p := ⟨pb, po + k, none⟩) hpw).trans y1 | go_keep) ((go_at_call 109; refine (hTi.out _ hwd.out).mono ?_; rintro e w3 ⟨rfl, hb3⟩; have hB3 := Lib.hid (hwd.out.trans (hb3.mono hwd.out.size))))
          have hBf := Lib.hid (hBJ.out.trans ((hwd2.out.trans (hb3.mono hwd2.out.size)).mono hBJ.out.size))
          clear hb3
          by_cases hq : wc < old
          · have hs := Lib.hid (hSj.out hq)
            go_wp2
            go_ret3
            exact ⟨by rw [hs.out]; rfl, hB3.out⟩
          · have hnx := Lib.hid (hNx.out (by omega))
            have := hjh.out
            go_wp2
            go_roundw
            case rel => exact ⟨j + 1, hjh.out, by go_num, fun i hi h => by have := hnx.out i hi h; omega, hBf.out⟩
            case measure => simp [intOf]; omega
        · obtain rfl : j = ts.length := by omega
          have hkn := Lib.hid (show ∀ i, i < k + 1 → ufIn cs i (TS i) = none from fun i hi => by
            rcases Nat.lt_or_ge i k with h' | h'
            · exact hNO.out i h'
            · obtain rfl : i = k := by omega
              rw [hTs.out]
              exact ufIn_none fun j hj => hNJ.out j hj hj)
          have hkh2 := hkh.out
          go_wp2
          go_roundw
          case rel => exact ⟨k + 1, by omega, by go_num, hkn.out, hBr.out⟩
          case measure => simp [intOf]; omega
    · obtain rfl : k = n := by omega
      have hU := Lib.hid (hUN.out hNO.out)
      go_wp2
      go_ret3
      exact ⟨by rw [hU.out]; rfl, hBL.out⟩
end Go.Proofs.Ytgcbfiamhpfkhaa

/- AreFair, UnfairAt of the model; what prices are. -/
namespace Go.Proofs.Ytgcbfiamhpfkhaa
open Go.RowKit
set_option linter.unusedVariables false
set_option maxRecDepth 100000

def prOk (n : Nat) (ps : List Int) : Bool := decide (ps.length = n) && allIn ps 0 1000
theorem allIn_mem {ps : List Int} {lo hi : Int} (h : allIn ps lo hi = true) : ∀ x ∈ ps, lo ≤ x ∧ x ≤ hi := by
  intro x hx
  unfold allIn at h
  rw [List.all_eq_true] at h
  exact (inR_iff _ _ _).1 (h x hx)
theorem cvPriced_any (n L B : Nat) (A PA : Option Addr) (c pc : Nat) (ps : List Int) (w : World) (hn : n ≤ 1048576) (hl : ps.length ≤ 1048576) (hx : IS w L B PA ps) :
    Calls Try.prog 54 #[.slice A n c, .slice PA ps.length pc] w fun e w' => e = .returned (.bool (prOk n ps)) ∧ w = w' := by
  have H := Lib.hid (l1All_any L B PA pc ps 0 1000 w hl hx); clear hx
  by_cases h6 : ps.length = n
  · have hR : Hid (prOk n ps = allIn ps 0 1000) := by simp [Hid, prOk, h6]
    have h6' : ((ps.length : Int) == (n : Int)) = true := by simp; omega
    clear h6
    go_enter Try.func54, Try.ntmps54
    go_wp2_with (go_at_call 108; refine H.out.mono ?_; rintro e w' ⟨rfl, rfl⟩)
    go_ret
    exact ⟨ret_bool (by rw [hR.out]), rfl⟩
  · have hR : Hid (prOk n ps = false) := by simp [Hid, prOk, h6]
    have h6' : ((ps.length : Int) == (n : Int)) = false := by simp; omega
    clear h6
    go_enter Try.func54, Try.ntmps54
    go_wp2
    go_ret
    exact ⟨ret_bool hR.out.symm, rfl⟩

/-- The price's condition as the program states it. -/
theorem dear_any (x : Int) (w : World) :
    Calls Try.prog 113 #[.int .i64 x] w fun e w' => e = .returned (.bool (!inR x 0 1000)) ∧ w = w' := by
  by_cases h0 : x < 0
  · have hR : Hid (inR x 0 1000 = false) := by simp [Hid, inR]; omega
    go_enter Try.func113, Try.ntmps113
    go_wp2
    go_ret
    exact ⟨by rw [hR.out]; rfl, rfl⟩
  · by_cases h1 : x > 1000
    · have hR : Hid (inR x 0 1000 = false) := by simp [Hid, inR]; omega
      go_enter Try.func113, Try.ntmps113
      go_wp2
      go_ret
      exact ⟨by rw [hR.out]; rfl, rfl⟩
    · have hR : Hid (inR x 0 1000 = true) := by simp [Hid, inR]; omega
      go_enter Try.func113, Try.ntmps113
      go_wp2
      go_ret
      exact ⟨by rw [hR.out]; rfl, rfl⟩
def SomeIdxP (xs : List Int) (w : World) (e : Ending) (w' : World) : Prop := ∃ k : Int, e = .returned (.int .i64 k) ∧ decide (0 ≤ k) = !allIn xs 0 1000 ∧ w = w'
theorem IndexFuncP_any (L B : Nat) (A : Option Addr) (c : Nat) (xs : List Int) (w : World) (hl : xs.length ≤ 1048576) (hx : IS w L B A xs) :
    Calls Try.prog 159 #[.slice A xs.length c, .func (.func 113) #[] #[]] w (SomeIdxP xs w) := by
  have hX := Lib.hid hx; clear hx
  go_enter Try.func159, Try.ntmps159
  go_wp2
  go_loop [5, 8] (fun _ i => ∃ k : Nat, k ≤ xs.length ∧ i = .int .i64 k ∧ allIn (xs.take k) 0 1000 = true) (fun _ i => xs.length - (intOf i).toNat)
  case atStart => exact ⟨0, Nat.zero_le _, rfl, rfl⟩
  case round =>
    obtain ⟨k, hk, rfl, hh⟩ := hrel
    have hH := Lib.hid hh; clear hh
    by_cases hlt : k < xs.length
    · obtain ⟨b, o, rfl, _, hc⟩ := hX.out (by omega)
      have hcell := hc k hlt
      clear hc
      have hS := Lib.hid (allIn_snoc (lo := 0) (hi := 1000) hlt)
      generalize xs[k] = x at *
      have hA := fun w => dear_any x w
      cases hb : inR x 0 1000
      · have hF : Hid (allIn xs 0 1000 = false) := allIn_of (k := k + 1) (by rw [hS.out, hb]; simp)
        rw [hb] at hA
        go_wp2_with (go_at_call 113; refine (hA _).mono ?_; rintro e w' ⟨rfl, rfl⟩)
        go_ret
        exact ⟨k, rfl, by rw [hF.out]; simp, rfl⟩
      · have hb' := Lib.hid hb
        rw [hb] at hA
        go_wp2_with (go_at_call 113; refine (hA _).mono ?_; rintro e w' ⟨rfl, rfl⟩)
        go_round
        case rel => exact ⟨k + 1, by omega, by go_num, by rw [hS.out, hH.out, hb'.out]; rfl⟩
        case measure => simp [intOf]; omega
    · obtain rfl : k = xs.length := by omega
      go_wp2
      go_ret
      exact ⟨-1, rfl, by have := hH.out; rw [List.take_length] at this; rw [this]; rfl, rfl⟩
theorem ContainsFuncP_any (L B : Nat) (A : Option Addr) (c : Nat) (xs : List Int) (w : World) (hl : xs.length ≤ 1048576) (hx : IS w L B A xs) :
    Calls Try.prog 112 #[.slice A xs.length c, .func (.func 113) #[] #[]] w fun e w' => e = .returned (.bool (!allIn xs 0 1000)) ∧ w = w' := by
  have H := Lib.hid (IndexFuncP_any L B A c xs w hl hx); clear hx
  go_enter Try.func112, Try.ntmps112
  go_wp2_with (fail)
  refine H.out.mono ?_
  rintro e w' ⟨k, rfl, hk, rfl⟩
  have hK := Lib.hid hk; clear hk
  go_wp2
  go_ret
  exact ⟨ret_bool hK.out, rfl⟩
theorem arePrices_any (n L B : Nat) (A PA : Option Addr) (c pc : Nat) (ps : List Int) (w : World) (hn : n ≤ 1048576) (hl : ps.length ≤ 1048576) (hx : IS w L B PA ps) :
    Calls Try.prog 58 #[.slice A n c, .slice PA ps.length pc] w fun e w' => e = .returned (.bool (prOk n ps)) ∧ w = w' := by
  have H := Lib.hid (ContainsFuncP_any L B PA pc ps w hl hx); clear hx
  by_cases h6 : ps.length = n
  · have hR : Hid (prOk n ps = allIn ps 0 1000) := by simp [Hid, prOk, h6]
    have h6' : ((ps.length : Int) == (n : Int)) = true := by simp; omega
    clear h6
    go_enter Try.func58, Try.ntmps58
    go_wp2_with (fail)
    refine H.out.mono ?_
    rintro e w' ⟨rfl, rfl⟩
    go_wp2
    go_ret
    exact ⟨ret_bool (by rw [hR.out]), rfl⟩
  · have hR : Hid (prOk n ps = false) := by simp [Hid, prOk, h6]
    have h6' : ((ps.length : Int) == (n : Int)) = false := by simp; omega
    clear h6
    go_enter Try.func58, Try.ntmps58
    go_wp2
    go_ret
    exact ⟨ret_bool hR.out.symm, rfl⟩

/-- What UnfairAt answers. -/
def ufA (es : List Nd) (ps : List Int) : Option (Int × Int) := if treeR es = true ∧ prOk es.length ps = true then ufR es ps else none
set_option maxHeartbeats 4000000 in
theorem sUnfairAt_any (L B L' B' : Nat) (A PA : Option Addr) (c pc : Nat) (es : List Nd) (ps : List Int) (w : World) (hl : es.length ≤ 1048576) (hes : NS w L B A es) (hB : B ≤ w.heap.size) (hl' : ps.length ≤ 1048576) (hps : IS w L' B' PA ps) (hB' : B' ≤ w.heap.size) :
    Calls Try.prog 21 #[.slice A es.length c, .slice PA ps.length pc] w fun e w' => e = .returned (ufV (ufA es ps)) ∧ Below w.heap.size w w' := by
  have H := Lib.hid (cvTree_any L B A c es w hl hes hB)
  have HP := Lib.hid fun (W : World) (hW : Below w.heap.size w W) => cvPriced_any es.length L' B' A PA c pc ps W hl hl' (hps.below hW hB')
  have HU := Lib.hid fun (ht : treeR es = true) (hn : ps.length = es.length) (W : World) (hW : Below w.heap.size w W) => cvUnfair_any L B L' B' A PA c pc es ps W ht (hes.below hW hB) (Nat.le_trans hB hW.size) (hps.below hW hB') (Nat.le_trans hB' hW.size) hn
  clear hes hB hps hB'
  cases ht : treeR es
  · have hR := Lib.hid (show ufA es ps = none by unfold ufA; rw [if_neg (by rw [ht]; simp)])
    rw [ht] at H
    clear ht HU
    go_enter Try.func21, Try.ntmps21
    go_wp2_with (go_at_call 53; refine H.out.mono ?_; rintro e w1 ⟨rfl, hb1⟩; have hbh := Lib.hid hb1; clear hb1)
    go_ret3
    exact ⟨by rw [hR.out]; rfl, hbh.out⟩
  rw [ht] at H
  cases hp : prOk es.length ps
  · have hR := Lib.hid (show ufA es ps = none by unfold ufA; rw [if_neg (by rw [hp]; simp)])
    rw [hp] at HP
    clear ht hp HU
    go_enter Try.func21, Try.ntmps21
    go_wp2_with (first | (go_at_call 53; refine H.out.mono ?_; rintro e w1 ⟨rfl, hb1⟩; have hbh := Lib.hid hb1; clear hb1) | (go_at_call 54; refine (HP.out _ hbh.out).mono ?_; rintro e w2 ⟨rfl, rfl⟩))
    go_ret3
    exact ⟨by rw [hR.out]; rfl, hbh.out⟩
  have hR := Lib.hid (show ufA es ps = ufR es ps by unfold ufA; rw [if_pos ⟨ht, hp⟩])
  have hn : ps.length = es.length := by unfold prOk at hp; simp only [Bool.and_eq_true, decide_eq_true_eq] at hp; exact hp.1
  have HU2 := Lib.hid (HU.out ht hn)
  rw [hp] at HP
  rw [hn] at HP ⊢
  clear ht hp HU hn
  rw [hR.out]
  clear hR
  generalize ufR es ps = U2 at *
  obtain ⟨ra, rb, rf, hv⟩ : ∃ ra rb rf, ufV U2 = .tuple #[.int .i64 ra, .int .i64 rb, .bool rf] := ⟨_, _, _, rfl⟩
  rw [hv] at HU2 ⊢
  clear hv
  go_enter Try.func21, Try.ntmps21
  go_wp2_with (first | (go_at_call 53; refine H.out.mono ?_; rintro e w1 ⟨rfl, hb1⟩; have hbh := Lib.hid hb1; clear hb1) | (go_at_call 54; refine (HP.out _ hbh.out).mono ?_; rintro e w2 ⟨rfl, rfl⟩) | (go_at_call 55; refine (HU2.out _ hbh.out).mono ?_; rintro e w3 ⟨rfl, hb3⟩; have hbi := Lib.hid (hbh.out.trans (hb3.mono hbh.out.size)); clear hb3))
  go_ret3
  exact ⟨rfl, hbi.out⟩

set_option maxHeartbeats 4000000 in
theorem sAreFair_any (L B L' B' : Nat) (A PA : Option Addr) (c pc : Nat) (es : List Nd) (ps : List Int) (w : World) (hl : es.length ≤ 1048576) (hes : NS w L B A es) (hB : B ≤ w.heap.size) (hl' : ps.length ≤ 1048576) (hps : IS w L' B' PA ps) (hB' : B' ≤ w.heap.size) :
    Calls Try.prog 15 #[.slice A es.length c, .slice PA ps.length pc] w fun e w' => e = .returned (.tuple #[.bool (treeR es && prOk es.length ps && (ufA es ps).isNone), .bool (treeR es)]) ∧ Below w.heap.size w w' := by
  have H := Lib.hid (cvTree_any L B A c es w hl hes hB)
  have HP := Lib.hid fun (W : World) (hW : Below w.heap.size w W) => cvPriced_any es.length L' B' A PA c pc ps W hl hl' (hps.below hW hB')
  have HU := Lib.hid fun (ht : treeR es = true) (hn : ps.length = es.length) (W : World) (hW : Below w.heap.size w W) => cvUnfair_any L B L' B' A PA c pc es ps W ht (hes.below hW hB) (Nat.le_trans hB hW.size) (hps.below hW hB') (Nat.le_trans hB' hW.size) hn
  clear hes hB hps hB'
  cases ht : treeR es
  · rw [ht] at H
    clear ht HU
    go_enter Try.func15, Try.ntmps15
    go_wp2_with (go_at_call 53; refine H.out.mono ?_; rintro e w1 ⟨rfl, hb1⟩; have hbh := Lib.hid hb1; clear hb1)
    go_ret2
    exact ⟨rfl, hbh.out⟩
  rw [ht] at H
  cases hp : prOk es.length ps
  · rw [hp] at HP
    clear ht hp HU
    go_enter Try.func15, Try.ntmps15
    go_wp2_with (first | (go_at_call 53; refine H.out.mono ?_; rintro e w1 ⟨rfl, hb1⟩; have hbh := Lib.hid hb1; clear hb1) | (go_at_call 54; refine (HP.out _ hbh.out).mono ?_; rintro e w2 ⟨rfl, rfl⟩))
    go_ret2
    exact ⟨rfl, hbh.out⟩
  have hR := Lib.hid (show ufA es ps = ufR es ps by unfold ufA; rw [if_pos ⟨ht, hp⟩])
  have hn : ps.length = es.length := by unfold prOk at hp; simp only [Bool.and_eq_true, decide_eq_true_eq] at hp; exact hp.1
  have HU2 := Lib.hid (HU.out ht hn)
  rw [hp] at HP
  rw [hn] at HP ⊢
  clear ht hp HU hn
  rw [hR.out]
  generalize ufR es ps = U2 at *
  clear hR
  cases U2
  all_goals
    go_enter Try.func15, Try.ntmps15
    go_wp2_with (first | (go_at_call 53; refine H.out.mono ?_; rintro e w1 ⟨rfl, hb1⟩; have hbh := Lib.hid hb1; clear hb1) | (go_at_call 54; refine (HP.out _ hbh.out).mono ?_; rintro e w2 ⟨rfl, rfl⟩) | (go_at_call 55; refine (HU2.out _ hbh.out).mono ?_; rintro e w3 ⟨rfl, hb3⟩; have hbi := Lib.hid (hbh.out.trans (hb3.mono hbh.out.size)); clear hb3; simp only [ufV, Option.map_none, Option.map_some, Option.getD_none, Option.getD_some, Option.isSome_none, Option.isSome_some]))
    go_ret2
    exact ⟨rfl, hbi.out⟩
end Go.Proofs.Ytgcbfiamhpfkhaa

/- A map of ints by ints. -/
namespace Go.Proofs.Ytgcbfiamhpfkhaa
open Go.RowKit
open Go.Maps (Keyed)
set_option linter.unusedVariables false
set_option maxRecDepth 100000

theorem mpKey : Keyed Try.prog 3 := Maps.int_keyed Try.underlying3
theorem mpZero (w : World) : (zeroValue 3).run Try.prog w = .ok (.int .i64 0) w := by kernel_rfl
/-- Block b is a map whose answers f tells. -/
def MP (w : World) (b n : Nat) (f : Int → Int) : Prop :=
  ∃ D : DataW Unit, w.ownsMap Try.prog 3 (plainElem Try.prog 3) b n D ∧ ∀ i : Int, 0 ≤ i → i ≤ 1048576 → D.atKey (.int .i64 i) (.lit (.int .i64 0)) = .lit (.int .i64 (f i))
theorem wf_i64 {a : Int} (h1 : -9223372036854775808 ≤ a) (h2 : a ≤ 9223372036854775807) : (Lit.int .i64 a).wf = true := by
  have e1 : IntKind.i64.min = -9223372036854775808 := by decide
  have e2 : IntKind.i64.max = 9223372036854775807 := by decide
  simp only [Lit.wf, e1, e2, Bool.and_eq_true, decide_eq_true_eq]; omega
theorem MP.made (w : World) : MP (w.alloc (.map #[] 0)) w.heap.size 0 (fun _ => 0) := ⟨.map [], w.ownsMap_made _ _ _, fun i _ _ => rfl⟩
theorem MP.lt {w : World} {b n : Nat} {f : Int → Int} (h : MP w b n f) : b < w.heap.size := h.choose_spec.1.lt
theorem MP.kept {w w' : World} {b n : Nat} {f : Int → Int} {row : Option Nat} (h : MP w b n f) (hg : w.grownBy w' row) (hne : some b ≠ row) : MP w' b n f := by
  obtain ⟨D, hD, hf⟩ := h
  exact ⟨D, hD.kept hg hne, hf⟩
theorem MP.next {w w' : World} {b n : Nat} {f : Int → Int} (h : MP w b n f) (hb : Below w.heap.size w w') : MP w' b n f := by
  obtain ⟨D, ⟨es, clock, hh, F, hs, hD⟩, hf⟩ := h
  exact ⟨D, ⟨es, clock, (hb.block b (Array.getElem?_eq_some_iff.1 hh).1).trans hh, F, hs, hD⟩, hf⟩
theorem MP.look {w : World} {b n : Nat} {f : Int → Int} (h : MP w b n f) {i : Int} (h0 : 0 ≤ i) (h1 : i ≤ 1048576) : (Instr.lookup 69 (.map (some b)) (.int .i64 i) false).run Try.prog w = .ok (.int .i64 (f i)) w := by
  obtain ⟨D, hD, hf⟩ := h
  obtain ⟨c, hrun, hat, _⟩ := hD.lookup_int mpKey Try.underlying69 Try.underlying3 (mpZero w) (Maps.keyOf_int_mk Try.underlying3 (wf_i64 (a := i) (by omega) (by omega)))
  rw [hf i h0 h1] at hat
  injection hat with hat
  injection hat with _ hat
  rw [hrun, hat]
theorem MP.put {w : World} {b n : Nat} {f : Int → Int} (h : MP w b n f) (hn : n < 1000000) {i v : Int} (h0 : 0 ≤ i) (h1 : i ≤ 1048576) (hv : (Lit.int .i64 v).wf = true) :
    ∃ w', (Instr.mapUpdate 69 (.map (some b)) (.int .i64 i) (.int .i64 v)).run Try.prog w = .ok () w' ∧ MP w' b (n + 1) (fun j => if j = i then v else f j) ∧ w.grownBy w' (some b) := by
  obtain ⟨D, hD, hf⟩ := h
  have hk := Maps.keyOf_int_mk Try.underlying3 (wf_i64 (a := i) (by omega) (by omega))
  obtain ⟨w', hrun, hown, hg⟩ := hD.update mpKey Try.underlying69 (by unfold maxLen; omega) hk (plainElem_int Try.underlying3 hv)
  refine ⟨w', hrun, ⟨_, hown, fun j j0 j1 => ?_⟩, hg⟩
  by_cases e : j = i
  · subst e
    dsimp only
    rw [if_pos rfl]
    exact Maps.atKey_put_same hD.isMap (mpKey.key hk) _ _
  · dsimp only
    rw [if_neg e]
    exact (Maps.atKey_put_other (fun h => e (by injection h)) _ _).trans (hf j j0 j1)
end Go.Proofs.Ytgcbfiamhpfkhaa

/- Blocks of bools, boxes of a node; a node moved. -/
namespace Go.Proofs.Ytgcbfiamhpfkhaa
open Go.RowKit
set_option linter.unusedVariables false
set_option maxRecDepth 100000

def boolCells (bs : List Bool) : Array Value := (bs.map Value.bool).toArray
/-- A block of bools known whole. -/
def BB (w : World) (g : Nat) (bs : List Bool) : Prop := w.heap[g]? = some (.cells (boolCells bs) 4 (0, 0))
theorem BB.lt {w : World} {g : Nat} {bs : List Bool} (h : BB w g bs) : g < w.heap.size := by
  rcases Nat.lt_or_ge g w.heap.size with hlt | hge
  · exact hlt
  · unfold BB at h; rw [Array.getElem?_eq_none hge] at h; cases h
theorem BB.cell {w : World} {g : Nat} {bs : List Bool} (h : BB w g bs) (i : Nat) (hi : i < bs.length) : w.cell? ⟨g, i, none⟩ = some (.bool (bs.getD i false)) := by
  rw [cell_of_row w g i _ 4 (0, 0) h, List.getD_eq_getElem?_getD, List.getElem?_eq_getElem hi]; simp [boolCells, hi]
theorem BB.frozen {w : World} {g : Nat} {bs : List Bool} (h : BB w g bs) (i : Nat) : w.frozen? ⟨g, i, none⟩ = false := by
  unfold BB at h; simp [World.frozen?, h]
theorem BB.set {w : World} {g : Nat} {bs : List Bool} (h : BB w g bs) (i : Nat) (x : Bool) : BB (w.setCell ⟨g, i, none⟩ (.bool x)) g (bs.set i x) := by
  unfold BB at h ⊢
  simp [World.setCell, Array.getElem?_modify, h, boolCells, List.map_set]
theorem BB.next {w w' : World} {g : Nat} {bs : List Bool} (h : BB w g bs) (hb : Below w.heap.size w w') : BB w' g bs := (hb.block g h.lt).trans h
theorem BB.other {w : World} {g q : Nat} {bs : List Bool} (h : BB w g bs) (j : Nat) (x : Value) (hne : q ≠ g) : BB (w.setCell ⟨q, j, none⟩ x) g bs :=
  (Below.heap_setCell w ⟨q, j, none⟩ x g (by simpa using fun e => hne e.symm)).trans h
theorem Try.infoBool : (Try.prog.info? 4).map (fun i => (i.zero, i.size, i.bytes)) = some (some (.bool false), 1, 1) := by kernel_rfl
theorem run_make_bools (n : Nat) (hn : n ≤ 1048576) (W : World) : (Instr.makeSlice 168 (.int .i64 (n : Int)) (.int .i64 (n : Int))).run Try.prog W = .ok (.slice (some ⟨W.heap.size, 0, none⟩) n n) (W.alloc (.cells (boolCells (List.replicate n false)) 4)) := by
  obtain ⟨i0, hi, hz0, hz1, hz2⟩ := info_parts Try.infoBool
  have h := run_make (P := Try.prog) W 168 4 i0 _ Try.underlying168 hi hz0 .i64 .i64 n n (by omega) (by omega) (by rw [hz2]; omega) (by omega)
  rw [h]
  simp only [Int.toNat_natCast, hz1, Nat.mul_one]
  refine congrArg (fun c => Result.ok (Value.slice (some ⟨W.heap.size, 0, none⟩) n n) (W.alloc (.cells c 4))) ?_
  apply Array.ext'
  rw [boolCells, List.map_replicate]
  exact toList_madeCells_one _ _

/-- One node in a box. -/
def XN (w : World) (g : Nat) (n : Nd) : Prop := w.heap[g]? = some (.cells #[.string n.op, .int .i64 n.a, .int .i64 n.b, .int .i64 n.v] 65 (0, 0))
theorem XN.lt {w : World} {g : Nat} {n : Nd} (h : XN w g n) : g < w.heap.size := by
  rcases Nat.lt_or_ge g w.heap.size with hlt | hge
  · exact hlt
  · unfold XN at h; rw [Array.getElem?_eq_none hge] at h; cases h
theorem XN.next {w w' : World} {g : Nat} {n : Nd} (h : XN w g n) (hb : Below w.heap.size w w') : XN w' g n := (hb.block g h.lt).trans h
theorem XN.cells {w : World} {g : Nat} {n : Nd} (h : XN w g n) : w.cell? ⟨g, 0, none⟩ = some (.string n.op) ∧ w.cell? ⟨g, 1, none⟩ = some (.int .i64 n.a) ∧ w.cell? ⟨g, 2, none⟩ = some (.int .i64 n.b) ∧ w.cell? ⟨g, 3, none⟩ = some (.int .i64 n.v) := by
  have c := fun i => cell_of_row w g i _ 65 (0, 0) h
  exact ⟨c 0, c 1, c 2, c 3⟩
theorem XN.fz {w : World} {g : Nat} {n : Nd} (h : XN w g n) (i : Nat) : w.frozen? ⟨g, i, none⟩ = false := by
  unfold XN at h; simp [World.frozen?, h]
theorem XN.setA {w : World} {g : Nat} {n : Nd} (h : XN w g n) (x : Int) : XN (w.setCell ⟨g, 1, none⟩ (.int .i64 x)) g ⟨n.op, x, n.b, n.v⟩ := by
  unfold XN at h ⊢
  simp [World.setCell, Array.getElem?_modify, h]
theorem XN.setB {w : World} {g : Nat} {n : Nd} (h : XN w g n) (x : Int) : XN (w.setCell ⟨g, 2, none⟩ (.int .i64 x)) g ⟨n.op, n.a, x, n.v⟩ := by
  unfold XN at h ⊢
  simp [World.setCell, Array.getElem?_modify, h]
theorem XN.other {w : World} {g q : Nat} {n : Nd} (h : XN w g n) (j : Nat) (x : Value) (hne : q ≠ g) : XN (w.setCell ⟨q, j, none⟩ x) g n :=
  (Below.heap_setCell w ⟨q, j, none⟩ x g (by simpa using fun e => hne e.symm)).trans h
def put4 (w : World) (g : Nat) (n : Nd) : World := (((w.setCell ⟨g, 0, none⟩ (.string n.op)).setCell ⟨g, 1, none⟩ (.int .i64 n.a)).setCell ⟨g, 2, none⟩ (.int .i64 n.b)).setCell ⟨g, 3, none⟩ (.int .i64 n.v)
theorem XN.put4 {w : World} {g : Nat} {n : Nd} (h : XN w g n) (m : Nd) : XN (put4 w g m) g m := by
  unfold XN Go.Proofs.Ytgcbfiamhpfkhaa.put4 at *
  simp [World.setCell, Array.getElem?_modify, h]
theorem below_put4 {w w' : World} {B g : Nat} (h : Below B w w') (hg : B ≤ g) (n : Nd) : Below B w (put4 w' g n) :=
  (((h.setCell (p := ⟨g, 0, none⟩) hg _).setCell (p := ⟨g, 1, none⟩) hg _).setCell (p := ⟨g, 2, none⟩) hg _).setCell (p := ⟨g, 3, none⟩) hg _
theorem xn_new (w : World) (n : Nd) : XN (w.alloc (.cells #[.string n.op, .int .i64 n.a, .int .i64 n.b, .int .i64 n.v] 65)) w.heap.size n := heap_alloc_new w _
/-- A function whose result is a node in a cell. -/
theorem node_ret {fn : Func} {Q : Ending → World → Prop} {tmps : Array Value} {w : World} {g : Nat} {n : Nd} {s : Tmp} (hr : fn.results = #[.cell s 65]) (hs : tmps.getD s undef = .pointer (some ⟨g, 0, none⟩))
    (h : XN w g n) (hq : Q (.returned (.agg #[.string n.op, .int .i64 n.a, .int .i64 n.b, .int .i64 n.v])) w) : bodyPost Try.prog fn Q .ret ⟨tmps, []⟩ w := by
  obtain ⟨q0, q1, q2, q3⟩ := h.cells
  refine bodyPost_ret (v := .agg #[.string n.op, .int .i64 n.a, .int .i64 n.b, .int .i64 n.v]) ?_ rfl hq
  have hs' : tmps[s]?.getD undef = .pointer (some ⟨g, 0, none⟩) := by simpa using hs
  simp [results, hr, hs', go_sem, q0, q1, q2, q3]
end Go.Proofs.Ytgcbfiamhpfkhaa
