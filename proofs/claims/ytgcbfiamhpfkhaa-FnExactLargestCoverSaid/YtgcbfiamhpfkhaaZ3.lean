/- Texts of this proof, one behind the other: FH, GT, AO, AH, AI, AJ. -/
import Derived.Test.YtgcbfiamhpfkhaaZ7
import Derived.WalkKit
import Derived.WalkSpells
import Derived.WalkLawsBesides
import Derived.Lib.Hide
import Derived.Test.YtgcbfiamhpfkhaaZ4
import Derived.Test.YtgcbfiamhpfkhaaZ5
import Derived.Test.YtgcbfiamhpfkhaaZ15
import Derived.Deep.RegionHeld3
/- CountCovers of the model. -/
namespace Go.Proofs.Ytgcbfiamhpfkhaa
open Go.RowKit
set_option linter.unusedVariables false
set_option maxRecDepth 100000

end Go.Proofs.Ytgcbfiamhpfkhaa

/- Prices of the model. -/
namespace Go.Proofs.Ytgcbfiamhpfkhaa
open Go.RowKit
set_option linter.unusedVariables false
set_option maxRecDepth 100000

set_option maxHeartbeats 8000000 in
theorem cvWith_any (L B P PB : Nat) (A PA : Option Addr) (c pc : Nat) (es : List Nd) (cs : List Int) (k : Nat) (hk : k < es.length) (x : Ti) (hx : x ∈ tsN es k) (w : World) (hok : okFrom es 0 = true) (hes : NS w L B A es) (hB : B ≤ w.heap.size) (hcs : IS w P PB PA cs) (hPB : PB ≤ w.heap.size) (hl : cs.length = es.length) :
    Calls Try.prog 109 #[.slice A es.length c, .int .i64 (k : Int), .int .i64 x.num, .slice PA es.length pc] w fun e w' => e = .returned (.int .i64 (wcT cs x)) ∧ Below w.heap.size w w' := by
  obtain ⟨t, ht, he, hc, hm⟩ := tsN_c hk hx
  have H1 := Lib.hid (show Calls Try.prog 125 #[.slice A es.length c, .int .i64 (k : Int), .int .i64 (t : Int)] w fun e w' => e = .returned (.int .i64 x.c) ∧ w = w' from by rw [hc]; exact cvCost_any L B A c es k t hk w hes)
  have H2 := Lib.hid (show Calls Try.prog 73 #[.slice A es.length c, .int .i64 (k : Int), .int .i64 (t : Int)] w (TileM w (some x)) from by rw [← hm]; exact cvTile_n L B A c es k hk t ht w hes hB hok)
  have hps := Lib.hid (tsN_ps hok hk x hx)
  have hp2 := tsN_ps2 x hx
  have HC := Lib.hid fun (W : World) (hW : Below w.heap.size w W) => hcs.below hW hPB
  have hll := Lib.hid hl
  have hR : Hid (wcT cs x = wcTo x.c cs x.ps x.ps.length) := rfl
  rw [he]
  clear hes hcs hc hm hok he hx
  generalize wcT cs x = R at *
  obtain ⟨xn, ps, ins, xc⟩ := x
  dsimp only at H1 hps hp2 hR
  generalize es.length = n at *
  go_enter Try.func109, Try.ntmps109
  go_wp2_with (first | (go_at_call 125; refine H1.out.mono ?_; rintro e w1 ⟨rfl, rfl⟩) | (go_at_call 73; refine H2.out.mono ?_; rintro e w2 ⟨QA, qc, ZA, zc, rfl, hp, _, hb2⟩; dsimp only [Option.map_some, Option.getD_some, Option.isSome_some] at hp ⊢; have hpr := Lib.hid hp.rs; have hB2 := Lib.hid hb2; clear hp hb2))
  go_loop [9, 29] (fun cq q => ∃ t : Nat, t ≤ ps.length ∧ q = .int .i64 t ∧ cq = .int .i64 (wcTo xc cs ps t)) (fun _ q => ps.length - (intOf q).toNat)
  case atStart => exact ⟨0, Nat.zero_le _, rfl, rfl⟩
  case round =>
    obtain ⟨t, ht, rfl, rfl⟩ := hrel
    by_cases hltt : t < ps.length
    · obtain ⟨pb, po, rfl, _, hcc⟩ := hpr.out (by omega)
      have y1 := hcc t hltt
      have hpt := hps.out ps[t] (List.getElem_mem _)
      have hS := Lib.hid (wcTo_succ xc cs hltt)
      clear hcc
      generalize ps[t] = pp at *
      obtain ⟨pn, rfl⟩ := Int.eq_ofNat_of_zero_le hpt.1
      obtain ⟨cb, co, rfl, _, hdd⟩ := HC.out w2 hB2.out (by rw [hll.out]; omega)
      have hpn : pn < n := by omega
      have y2 := hdd pn (by rw [hll.out]; exact hpn)
      rw [show cs[pn]'(by rw [hll.out]; exact hpn) = cs.getD pn 0 from (getD_get (by rw [hll.out]; exact hpn)).symm] at y2
      clear hdd
      have hpm : (pn : Int) < (n : Int) := by omega
      have hpn0 : (0 : Int) ≤ (pn : Int) := by omega
      rw [Int.toNat_natCast] at hS
      generalize cs.getD pn 0 = cp at *
      generalize wcTo xc cs ps t = wt at *
      go_wp2
      go_round
      case rel => exact ⟨t + 1, by omega, by go_num, by rw [hS.out]⟩
      case measure => simp [intOf]; omega
    · obtain rfl : t = ps.length := by omega
      generalize wcTo xc cs ps ps.length = wt at *
      go_wp2
      go_ret
      exact ⟨by rw [hR.out]; rfl, hB2.out⟩

set_option maxHeartbeats 8000000 in
theorem cvPrices_any (L B : Nat) (A : Option Addr) (c : Nat) (es : List Nd) (w : World) (ht : treeR es = true) (hes : NS w L B A es) (hB : B ≤ w.heap.size) :
    Calls Try.prog 119 #[.slice A es.length c] w (fun e w' => ∃ g, e = .returned (.slice (some ⟨g, 0, none⟩) es.length es.length) ∧ w.heap.size ≤ g ∧ IB w' g 3 (prTo es es.length) ∧ Below w.heap.size w w') := by
  have hg : good es = true := by unfold treeR at ht; simp only [Bool.and_eq_true] at ht; exact ht.1
  obtain ⟨hl1, hl24, hok⟩ := good_len hg
  have H2 := Lib.hid fun (k : Nat) (hk : k < es.length) (W : World) (hW : Below w.heap.size w W) => (show Calls Try.prog 71 #[.slice A es.length c, .int .i64 (k : Int)] W (OwnIs W ((tsN es k).map Ti.num)) from by rw [tsN_eq hk, ← numsTo_all]; exact cvTiles_any L B A c es k hk W (hes.below hW hB) (Nat.le_trans hB hW.size) hok)
  have H3 := Lib.hid fun (k : Nat) (hk : k < es.length) (x : Ti) (hx : x ∈ tsN es k) (cs : List Int) (hl : cs.length = es.length) (g : Nat) (W : World) (hi : IB W g 3 cs) (hW : Below w.heap.size w W) =>
    cvWith_any L B g (g + 1) A (some ⟨g, 0, none⟩) c es.length es cs k hk x hx W hok (hes.below hW hB) (Nat.le_trans hB hW.size) hi.toIS hi.lt hl
  have hLn := Lib.hid fun (k : Nat) => (show (tsN es k).length ≤ 13 from tilesL_len _ _)
  have hSc := Lib.hid (prTo_next es)
  have hCl := Lib.hid (prTo_len es)
  have h00 := Lib.hid (prTo_zero es)
  have hmk := run_make_ints es.length (by omega)
  clear ht hg hes hB hok
  generalize tsN es = TS at *
  generalize prTo es = CC at *
  generalize es.length = n at *
  obtain ⟨m, rfl⟩ : ∃ m, n = m + 1 := ⟨n - 1, by omega⟩
  have hcm : ((m + 1 : Nat) : Int) = (m : Int) + 1 := by omega
  rw [hcm] at hmk
  have hT0 : Hid (IB (w.alloc (.cells (intCells (zeros (m + 1))) 3)) w.heap.size 3 (CC 0)) := by rw [h00.out]; exact heap_alloc_new w _
  have b1 := Lib.hid ((Below.refl w.heap.size w).alloc (Nat.le_refl _) (.cells (intCells (zeros (m + 1))) 3))
  go_enter Try.func119, Try.ntmps119
  go_wp2_with (fail)
  obtain ⟨g, hg0⟩ : ∃ g, g = w.heap.size := ⟨_, rfl⟩
  rw [← hg0]
  rw [← hg0] at hT0
  have hgw := Lib.hid (show w.heap.size ≤ g by omega)
  clear hg0
  generalize w.alloc (.cells (intCells (zeros (m + 1))) 3) = W1 at *
  go_loopw [13] (fun q wr => ∃ k : Nat, k ≤ m + 1 ∧ q = .int .i64 k ∧ IB wr g 3 (CC k) ∧ Below w.heap.size w wr) (fun q _ => m + 1 - (intOf q).toNat)
  case atStart => exact ⟨0, Nat.zero_le _, rfl, hT0.out, b1.out⟩
  case round =>
    obtain ⟨k, hk, rfl, hib, hbel⟩ := hrel
    have hIB := Lib.hid hib
    have hBL := Lib.hid hbel
    have hgl := hib.lt
    clear hib hbel
    by_cases hlt : k < m + 1
    · obtain ⟨wo, hwo⟩ : ∃ wo : World, wo = wr := ⟨_, rfl⟩
      rw [← hwo] at hIB hBL hgl ⊢
      clear hwo
      have hki : (k : Int) < (m : Int) + 1 := by omega
      have hC := Lib.hid (H2.out k hlt)
      have hC3 := Lib.hid (H3.out k hlt)
      have hSk := Lib.hid (hSc.out k)
      have hlk := hLn.out k
      have hcl := Lib.hid (hCl.out k)
      generalize TS k = ts at *
      generalize hck : CC (k + 1) = ck' at *
      have hck2 := Lib.hid hck
      clear hck
      generalize CC k = cs at *
      go_wp2_with (fail)
      refine (hC.out _ hBL.out).mono ?_
      rintro e w2 ⟨TA, tc, rfl, hown, hb2⟩
      have hRS := Lib.hid hown.rs
      have hB2 := Lib.hid (hBL.out.trans (hb2.mono hBL.out.size))
      have hI2 := Lib.hid (hIB.out.below hb2 hgl)
      have hg2 := Nat.lt_of_lt_of_le hgl hb2.size
      have hml : (ts.map Ti.num).length = ts.length := List.length_map _
      rw [hml]
      clear hown hb2
      go_wp2_with (fail)
      go_loopw [20] (fun q wr => ∃ j : Nat, j ≤ ts.length ∧ q = .int .i64 j ∧ IB wr g 3 (pcTo k cs ts j) ∧ Chg g (g + 1) w2 wr) (fun q _ => ts.length - (intOf q).toNat)
      case atStart => exact ⟨0, Nat.zero_le _, rfl, hI2.out, Chg.refl _ _ _⟩
      case round =>
        obtain ⟨j, hj, rfl, hib, hch⟩ := hrel
        have hIJ := Lib.hid hib
        have hCJ := Lib.hid hch
        have hgr := hib.lt
        clear hib hch
        by_cases hltj : j < ts.length
        · obtain ⟨tb, to', rfl, ⟨_, htb⟩, hcc⟩ := (hRS.out.chg hCJ.out (Nat.le_refl _) (.inr hgl)) (by rw [hml]; omega)
          have x1 := hcc j (by rw [hml]; exact hltj)
          rw [List.getElem_map] at x1
          have hcj := Lib.hid (pcTo_len k cs ts j)
          have hBr := below_chg hB2.out hCJ.out hB2.out.size hgw.out
          have hTi := Lib.hid (hC3.out ts[j] (List.getElem_mem _) (pcTo k cs ts j) (by rw [hcj.out, hcl.out]) g wr hIJ.out hBr)
          have hSj := Lib.hid (pcTo_succ k cs hltj)
          have hjh := Lib.hid hltj
          have hji : (j : Int) < (ts.length : Int) := by omega
          have hj13 : j ≤ 13 := by omega
          have hst1 := Lib.hid (pcStep_set (i := k) (j := j) (c := pcTo k cs ts j) (x := ts[j]))
          have hst2 := Lib.hid (pcStep_old (i := k) (j := j) (c := pcTo k cs ts j) (x := ts[j]))
          clear hcc
          generalize wcT (pcTo k cs ts j) ts[j] = wc at *
          generalize hcn : pcTo k cs ts (j + 1) = cn' at *
          have hcn2 := Lib.hid hcn
          clear hcn
          generalize ts[j] = x at *
          generalize pcTo k cs ts j = cj at *
          have hcm2 := Lib.hid hcm
          rw [← hcm] at hki
          go_wp2_with (fail)
          refine hTi.out.mono ?_
          rintro e w3 ⟨rfl, hb3⟩
          have hI3 := Lib.hid (hIJ.out.below hb3 hgr)
          have hC4 := Lib.hid (hCJ.out.trans (Chg.ofBelow hb3))
          have hcl2 : cj.length = m + 1 := by rw [hcj.out, hcl.out]
          have y := hI3.out.cell k (by omega)
          have hf := hI3.out.frozen k
          rw [show cj[k]'(by omega) = cj.getD k 0 from (getD_get (by omega)).symm] at y
          have hIs := Lib.hid fun v => hI3.out.set k v
          have hCs := Lib.hid fun v => hC4.out.setCell (p := ⟨g, k, none⟩) ⟨Nat.le_refl _, Nat.lt_succ_self _⟩ v
          have hk0 : (0 : Int) ≤ (k : Int) := by omega
          have hki2 : (k : Int) < (m : Int) + 1 := by omega
          clear hBr hb3 hTi x1
          by_cases hj0 : j = 0
          · subst hj0
            have hs := Lib.hid (hst1.out (.inl rfl))
            clear hst1 hst2
            go_wp2
            have := hjh.out
            exact ⟨⟨1, by omega, by simp, by have h := hIs.out wc; rw [hcn2.out, hSj.out, hs.out]; exact h, hCs.out _⟩, by simp [intOf]; omega⟩
          · have hji0 : ¬ (j : Int) = 0 := by omega
            have hjb : ((j : Int) == 0) = false := by simpa using hji0
            by_cases hq : wc < cj.getD k 0
            · have hs := Lib.hid (hst1.out (.inr hq))
              clear hst1 hst2
              generalize cj.getD k 0 = old at *
              go_wp2
              have := hjh.out
              exact ⟨⟨j + 1, hjh.out, by go_num, by have h := hIs.out wc; rw [hcn2.out, hSj.out, hs.out]; exact h, hCs.out _⟩, by simp [intOf]; omega⟩
            · have hs := Lib.hid (hst2.out (fun h => h.elim hj0 hq))
              clear hst1 hst2
              generalize cj.getD k 0 = old at *
              go_wp2
              have := hjh.out
              exact ⟨⟨j + 1, hjh.out, by go_num, by rw [hcn2.out, hSj.out, hs.out]; exact hI3.out, hC4.out⟩, by simp [intOf]; omega⟩
        · obtain rfl : j = ts.length := by omega
          have hB3 := Lib.hid (below_chg hB2.out hCJ.out hB2.out.size hgw.out)
          go_wp2
          go_roundw
          case rel => exact ⟨k + 1, by omega, by go_num, by rw [hck2.out, hSk.out]; exact hIJ.out, hB3.out⟩
          case measure => simp [intOf]; omega
    · obtain rfl : k = m + 1 := by omega
      go_wp2
      go_ret
      exact ⟨g, rfl, hgw.out, hIB.out, hBL.out⟩
end Go.Proofs.Ytgcbfiamhpfkhaa

/- A slice of the call's own: read and stored. -/
namespace Go.Proofs.Ytgcbfiamhpfkhaa
open Go.RowKit
set_option linter.unusedVariables false

theorem OW.len2 {w : World} {lo hi n c : Nat} {A : Option Addr} {xs : List Int} (h : OW w lo hi (.slice A n c) xs) : n = xs.length := by
  obtain ⟨A2, c2, hv, _⟩ := h.form
  injection hv with a b d
theorem OW.some2 {w : World} {lo hi n c : Nat} {A : Option Addr} {xs : List Int} (h : OW w lo hi (.slice A n c) xs) (h0 : 0 < n) : ∃ g, A = some ⟨g, 0, none⟩ ∧ lo ≤ g ∧ g < hi := by
  rcases h.1.2 with ⟨hv, h1⟩ | ⟨g, cap, cur, hv, hg, _⟩
  · injection hv with a b d; omega
  · have h2 := h.2 g (by rw [hv]; rfl)
    injection hv with a b d; exact ⟨g, a, hg, h2⟩
theorem OW.at2 {w : World} {lo hi n c g : Nat} {xs : List Int} (h : OW w lo hi (.slice (some ⟨g, 0, none⟩) n c) xs) (k : Nat) (hk : k < xs.length) : w.cell? ⟨g, k, none⟩ = some (.int .i64 (xs.getD k 0)) ∧ w.frozen? ⟨g, k, none⟩ = false := by
  have hl := h.len2
  subst hl
  have hcell := h.1.cellAt k (by omega)
  have hfr := h.1.frozenAt k
  rw [List.getElem?_map, List.getElem?_eq_getElem hk] at hcell
  rw [getD_get hk]
  exact ⟨by simpa using hcell, hfr⟩
theorem OW.put2 {w : World} {lo hi n c g : Nat} {xs : List Int} (h : OW w lo hi (.slice (some ⟨g, 0, none⟩) n c) xs) (k : Nat) (x : Int) : OW (w.setCell ⟨g, k, none⟩ (.int .i64 x)) lo hi (.slice (some ⟨g, 0, none⟩) n c) (xs.set k x) := by
  have hl := h.len2
  subst hl
  refine ⟨?_, h.2⟩
  have h1 := (h.1.stored k (.int .i64 x)).1
  rw [← List.map_set] at h1
  rw [List.length_set]; exact h1
end Go.Proofs.Ytgcbfiamhpfkhaa

/- The model's best cover. -/
namespace Go.Proofs.Ytgcbfiamhpfkhaa
open Go.RowKit
set_option linter.unusedVariables false
set_option maxRecDepth 100000

theorem repl_succ (k : Nat) : List.replicate (k + 1) (-1 : Int) = List.replicate k (-1) ++ [-1] := List.replicate_succ'
set_option maxHeartbeats 4000000 in
theorem cvNone_any (A : Option Addr) (c n : Nat) (w : World) (hn : n ≤ 24) :
    Calls Try.prog 70 #[.slice A n c] w (OwnIs w (List.replicate n (-1))) := by
  obtain ⟨i0, hi, hz0, hz1, hz2⟩ := info_parts Try.infoInt
  have hI := Lib.hid hi
  have hZ0 := Lib.hid hz0
  have hZ1 := Lib.hid hz1
  have hZ2 := Lib.hid hz2
  clear hi hz0 hz1 hz2
  have b0 := Lib.hid (Below.refl w.heap.size w)
  go_enter Try.func70, Try.ntmps70
  go_wp2
  go_loopw [3, 6] (fun v q wr => ∃ k : Nat, k ≤ n ∧ q = .int .i64 k ∧ OW wr w.heap.size wr.heap.size v (List.replicate k (-1)) ∧ Below w.heap.size w wr) (fun _ q _ => n - (intOf q).toNat)
  case atStart => exact ⟨0, Nat.zero_le _, rfl, OW.nil _ _ _, b0.out⟩
  case round =>
    obtain ⟨k, hk, rfl, how, hbel⟩ := hrel
    obtain ⟨V, cv, rfl, _⟩ := how.form
    have hO := Lib.hid how
    have hBL := Lib.hid hbel
    clear how hbel
    by_cases hlt : k < n
    · have hki : (k : Int) < (n : Int) := by omega
      have hS := Lib.hid (repl_succ k)
      have hxl : (List.replicate k (-1 : Int)).length = k := List.length_replicate
      generalize List.replicate k (-1 : Int) = xs at *
      have ho2 := Lib.hid (hO.out.1.alloc (.cells #[.int .i64 (-1)] 3))
      have hb3 := Lib.hid (hBL.out.alloc hBL.out.size (.cells #[.int .i64 (-1)] 3))
      have hlo := Lib.hid hO.out.lo
      have hlen : xs.length ≤ 24 := by omega
      clear hxl
      go_wp2_with (at_builtin; go_loud (refine wpList_append_own _ rfl _ _ 23 rfl w.heap.size 3 i0 (.int .i64 0) 1 8 Try.underlying23 hI.out hZ0.out hZ1.out hZ2.out rfl (by decide) _ _ _ rfl ho2.out ⟨wr.heap.size, 0, none⟩ 1 1 [.int .i64 (-1)] rfl rfl (new1 rfl) (one1 _) (by unfold maxLen; omega) (by omega) (by have := hBL.out.size; simp; omega) ?_); intro v' w4 hown4 hgr4 _)
      have R1 := Lib.hid (OW.push (by simpa using hown4) : OW w4 w.heap.size w4.heap.size v' (xs ++ [-1]))
      have R2 := Lib.hid (hb3.out.grown hgr4 hb3.out.size (fun k hk => (hlo.out k hk).1))
      clear hown4 hgr4
      go_wp2
      go_roundw
      case rel => exact ⟨k + 1, by omega, by go_num, by rw [hS.out]; exact R1.out, R2.out⟩
      case measure => simp [intOf]; omega
    · obtain rfl : k = n := by omega
      go_wp2
      go_ret
      exact ⟨V, cv, rfl, hO.out, hBL.out⟩
end Go.Proofs.Ytgcbfiamhpfkhaa

/- The model's best cover. -/
namespace Go.Proofs.Ytgcbfiamhpfkhaa
open Go.RowKit
set_option linter.unusedVariables false
set_option maxRecDepth 100000

/-- The cover when some tiles of a node have been looked at. -/
def bcJ (c : List Int) (i : Nat) (o : Option Ti) : List Int := if c.getD i 0 < 0 then (match o with | some x => c.set i x.num | none => c) else c
theorem bcJ_none (c : List Int) (i : Nat) : bcJ c i none = c := by unfold bcJ; split <;> rfl
theorem bcJ_some (c : List Int) (i : Nat) (x : Ti) : bcJ c i (some x) = if c.getD i 0 < 0 then c.set i x.num else c := rfl
theorem bcJ_len (c : List Int) (i : Nat) (o : Option Ti) : (bcJ c i o).length = c.length := by
  unfold bcJ; split
  · cases o <;> simp
  · rfl
theorem bcJ_skip {K : Ti → Int} {p : Int} {ts : List Ti} {c : List Int} {i j : Nat} (hj : j < ts.length) (hi : i < c.length) (h : ¬ (bcJ c i (fstTo K p ts j)).getD i 0 < 0) : bcJ c i (fstTo K p ts (j + 1)) = bcJ c i (fstTo K p ts j) := by
  rw [fstTo_succ hj]
  by_cases hc : c.getD i 0 < 0
  · cases ho : fstTo K p ts j with
    | none => rw [ho, bcJ_none] at h; exact absurd hc h
    | some x => rfl
  · unfold bcJ; rw [if_neg hc, if_neg hc]
theorem bcJ_open {K : Ti → Int} {p : Int} {ts : List Ti} {c : List Int} {i j : Nat} (hi : i < c.length) (hn : ∀ x ∈ ts, 0 ≤ x.num) (h : (bcJ c i (fstTo K p ts j)).getD i 0 < 0) : fstTo K p ts j = none ∧ c.getD i 0 < 0 := by
  by_cases hc : c.getD i 0 < 0
  · refine ⟨?_, hc⟩
    cases ho : fstTo K p ts j with
    | none => rfl
    | some x =>
      rw [ho, bcJ_some, if_pos hc, getDI_set _ _ _ hi, if_pos rfl] at h
      have := hn x (fstTo_some ho)
      omega
  · unfold bcJ at h; rw [if_neg hc] at h; exact absurd h hc
theorem bcJ_yes {K : Ti → Int} {p : Int} {ts : List Ti} {c : List Int} {i j : Nat} (hj : j < ts.length) (hi : i < c.length) (hn : ∀ x ∈ ts, 0 ≤ x.num) (h : (bcJ c i (fstTo K p ts j)).getD i 0 < 0) (hk : K ts[j] = p) : bcJ c i (fstTo K p ts (j + 1)) = (bcJ c i (fstTo K p ts j)).set i ts[j].num := by
  obtain ⟨h1, h2⟩ := bcJ_open hi hn h
  rw [fstTo_succ hj, h1, if_pos hk]
  show bcJ c i (some ts[j]) = _
  rw [bcJ_some, if_pos h2, bcJ_none]
theorem bcJ_no {K : Ti → Int} {p : Int} {ts : List Ti} {c : List Int} {i j : Nat} (hj : j < ts.length) (hi : i < c.length) (hn : ∀ x ∈ ts, 0 ≤ x.num) (h : (bcJ c i (fstTo K p ts j)).getD i 0 < 0) (hk : ¬ K ts[j] = p) : bcJ c i (fstTo K p ts (j + 1)) = bcJ c i (fstTo K p ts j) := by
  obtain ⟨h1, h2⟩ := bcJ_open hi hn h
  rw [fstTo_succ hj, h1, if_neg hk]; rfl
/-- What stands at a node that has been looked at. -/
theorem MoInv.at {n : Nat} {ch : Nat → Ti} {k : Nat} {o c : List Int} (h : MoInv n ch k o c) {i : Nat} (hi : i < n) (h0 : 0 ≤ (ch i).num) : (bcJ c i (some (ch i))).getD i 0 = (ch i).num := by
  rw [bcJ_some]
  by_cases hm : ∃ m, m < k ∧ m < o.length ∧ (o.getD m 0).toNat = i
  · have := h.pos i hi hm
    rw [if_neg (by omega)]; exact this
  · have := h.neg i hi hm
    rw [if_pos (by omega), getDI_set _ _ _ (by rw [h.len]; exact hi), if_pos rfl]
theorem pow323 : (3 : Nat) ^ 23 = 94143178827 := by decide
theorem MoInv.bound {n : Nat} {ch : Nat → Ti} {k : Nat} {o c : List Int} (h : MoInv n ch k o c) : o.length ≤ 94143178827 := by
  have h1 := h.pot
  have h2 := potO_len o k
  rw [pow323] at h1
  omega

set_option maxHeartbeats 8000000 in
theorem cvBest_any (L B : Nat) (A : Option Addr) (c : Nat) (es : List Nd) (w : World) (ht : treeR es = true) (hes : NS w L B A es) (hB : B ≤ w.heap.size) :
    Calls Try.prog 64 #[.slice A es.length c] w (OwnIs w (chR es.length (chE (kB es) es))) := by
  have hg : good es = true := by unfold treeR at ht; simp only [Bool.and_eq_true] at ht; exact ht.1
  obtain ⟨hl1, hl24, hok⟩ := good_len hg
  obtain ⟨i0, hi, hz0, hz1, hz2⟩ := info_parts Try.infoInt
  have hI := Lib.hid hi
  have hZ0 := Lib.hid hz0
  have hZ1 := Lib.hid hz1
  have hZ2 := Lib.hid hz2
  clear hi hz0 hz1 hz2
  have HP := Lib.hid (cvPrices_any L B A c es w ht hes hB)
  have HN := Lib.hid fun (W : World) => cvNone_any A c es.length W hl24
  have H2 := Lib.hid fun (k : Nat) (hk : k < es.length) (W : World) (hW : Below w.heap.size w W) => (show Calls Try.prog 71 #[.slice A es.length c, .int .i64 (k : Int)] W (OwnIs W ((tsN es k).map Ti.num)) from by rw [tsN_eq hk, ← numsTo_all]; exact cvTiles_any L B A c es k hk W (hes.below hW hB) (Nat.le_trans hB hW.size) hok)
  have H3 := Lib.hid fun (k : Nat) (hk : k < es.length) (x : Ti) (hx : x ∈ tsN es k) (g : Nat) (W : World) (hi : IB W g 3 (prTo es es.length)) (hW : Below w.heap.size w W) =>
    (show Calls Try.prog 109 #[.slice A es.length c, .int .i64 (k : Int), .int .i64 x.num, .slice (some ⟨g, 0, none⟩) es.length es.length] W fun e w' => e = .returned (.int .i64 (kB es x)) ∧ Below W.heap.size W w' from cvWith_any L B g (g + 1) A (some ⟨g, 0, none⟩) c es.length es (prTo es es.length) k hk x hx W hok (hes.below hW hB) (Nat.le_trans hB hW.size) hi.toIS hi.lt (prTo_len es _))
  have H4 := Lib.hid fun (k : Nat) (hk : k < es.length) (W : World) (hW : Below w.heap.size w W) => (show Calls Try.prog 73 #[.slice A es.length c, .int .i64 (k : Int), .int .i64 (chE (kB es) es k).num] W (TileM W (some (chE (kB es) es k))) from by
    obtain ⟨t, ht13, he, _, hm⟩ := tsN_c hk (chE_mem hok (kB es) hk)
    rw [he, ← hm]; exact cvTile_n L B A c es k hk t ht13 W (hes.below hW hB) (Nat.le_trans hB hW.size) hok)
  have hLn := Lib.hid fun (k : Nat) => (show (tsN es k).length ≤ 13 from tilesL_len _ _)
  have hNum := Lib.hid fun (k : Nat) (hk : k < es.length) => (show ∀ x ∈ tsN es k, 0 ≤ x.num from fun x hx => by obtain ⟨t, _, he, _⟩ := tsN_c hk hx; omega)
  have hPr := Lib.hid fun (k : Nat) (hk : k < es.length) => price_least hok hk
  have hFa := Lib.hid fun (k : Nat) (hk : k < es.length) => (show fstTo (kB es) (kB es (chE (kB es) es k)) (tsN es k) (tsN es k).length = some (chE (kB es) es k) from fstTo_all (tsN_pos hok hk))
  have hpl := Lib.hid (prTo_len es es.length)
  have hps := Lib.hid (chE_ps hok (kB es))
  have hps2 := Lib.hid (chE_ps2 hok (kB es))
  have hcn := Lib.hid (chE_num hok (kB es))
  have hM0 := Lib.hid (MoInv.first (chE (kB es) es) hl1 hl24)
  have hch : ∀ k, chK (kB es) (tsN es k) = chE (kB es) es k := fun _ => rfl
  simp only [hch] at hPr
  clear hch ht hg hes hB hok
  generalize kB es = K at *
  generalize chE K es = ch at *
  generalize prTo es es.length = P at *
  generalize tsN es = TS at *
  generalize es.length = n at *
  obtain ⟨m, rfl⟩ : ∃ m, n = m + 1 := ⟨n - 1, by omega⟩
  have hw1 : IntKind.i64.wrap ((m : Int) + 1 - 1) = (m : Int) := by rw [IntKind.wrap_i64]; omega
  have hcm : ((m + 1 : Nat) : Int) = (m : Int) + 1 := by omega
  have hm0 : ((m + 1 : Nat) : Int) - 1 = (m : Int) := by omega
  rw [hm0] at hM0
  clear hm0
  go_enter Try.func64, Try.ntmps64
  go_wp2_with (first | (go_at_call 119; refine HP.out.mono ?_; rintro e w1 ⟨g, rfl, hgw, hib, hb1⟩; have hIP := Lib.hid hib; have hb1h := Lib.hid hb1; have hgl := hib.lt; clear hib hb1) | (go_at_call 70; refine (HN.out _).mono ?_; rintro e w2 ⟨CA, cc, rfl, hown, hb2⟩; have hO2 := Lib.hid hown; have hb2h := Lib.hid hb2; clear hown hb2))
  have hl2 : (List.replicate (m + 1) (-1 : Int)).length = m + 1 := List.length_replicate
  obtain ⟨q, rfl, hq1, hq2⟩ := hO2.out.some2 (by rw [hl2]; omega)
  rw [hl2] at hO2
  clear hl2
  have z1 := hb1h.out.size
  have b2 := Lib.hid (hb1h.out.trans (hb2h.out.mono z1))
  have z2 := hb2h.out.size
  have hIO : IB (w2.alloc (.cells #[.int .i64 (m : Int)] 3)) w2.heap.size 3 [(m : Int)] := heap_alloc_new w2 _
  have ba := Lib.hid ((Below.refl w2.heap.size w2).alloc (Nat.le_refl _) (.cells #[.int .i64 (m : Int)] 3))
  have hOo := Lib.hid (OW.ofIB' (lo := w2.heap.size) (hi := (w2.alloc (.cells #[.int .i64 (m : Int)] 3)).heap.size) hIO (by simp) (Nat.le_refl _) (by simp))
  have hOc := Lib.hid (hO2.out.below ba.out (Nat.le_refl _))
  have hIp := Lib.hid ((hIP.out.below hb2h.out hgl).below ba.out (Nat.lt_of_lt_of_le hgl z2))
  have hBa := Lib.hid (b2.out.trans (ba.out.mono (Nat.le_trans z1 z2)))
  have hz0 := ba.out.size
  clear hIO hO2 hIP hb1h hb2h ba
  generalize w2.alloc (.cells #[.int .i64 (m : Int)] 3) = W0 at *
  go_loopw [5, 6] (fun v u wr => ∃ (k : Nat) (o cv : List Int), OW wr w2.heap.size wr.heap.size v o ∧ u = .int .i64 k ∧ MoInv (m + 1) ch k o cv ∧ OW wr w1.heap.size w2.heap.size (.slice (some ⟨q, 0, none⟩) (m + 1) cc) cv ∧ Below w.heap.size w wr ∧ IB wr g 3 P ∧ w2.heap.size ≤ wr.heap.size) (fun _ u _ => 94143178828 - (intOf u).toNat)
  case atStart => exact ⟨0, [(m : Int)], List.replicate (m + 1) (-1), hOo.out, rfl, hM0.out, hOc.out, hBa.out, hIp.out, hz0⟩
  case round =>
    obtain ⟨k, o, cv, how, rfl, hmo, hoc, hbel, hip, hz2r⟩ := hrel
    obtain ⟨OA, oc, rfl, _⟩ := how.form
    have hOW := Lib.hid how
    have hMO := Lib.hid hmo
    have hOC := Lib.hid hoc
    have hBL := Lib.hid hbel
    have hIB := Lib.hid hip
    have hbd := hmo.bound
    clear hoc hbel hip
    by_cases hlt : k < o.length
    · obtain ⟨ob, rfl, hob1, hob2⟩ := how.some2 (by omega)
      obtain ⟨x1, _⟩ := how.at2 k hlt
      obtain ⟨hi0, hi1⟩ := hmo.rng (o.getD k 0) (by rw [getD_get hlt]; exact List.getElem_mem _)
      clear how hmo
      obtain ⟨i, hi⟩ := Int.eq_ofNat_of_zero_le hi0
      rw [hi] at x1 hi1
      have hIi := Lib.hid hi
      clear hi hi0
      have hin : i < m + 1 := by omega
      have hinh := Lib.hid hin
      have hii : (i : Int) < (m : Int) + 1 := by omega
      have hi00 : (0 : Int) ≤ (i : Int) := by omega
      have hkl : (k : Int) < (o.length : Int) := by omega
      have hk0 : (0 : Int) ≤ (k : Int) := by omega
      have hC := Lib.hid (H2.out i hin)
      have hC3 := Lib.hid (H3.out i hin)
      have hC4 := Lib.hid (H4.out i hin)
      have hnum := Lib.hid (hNum.out i hin)
      have hpr := Lib.hid (hPr.out i hin)
      have hfa := Lib.hid (hFa.out i hin)
      have hlk := hLn.out i
      have hci := hcn.out i hin
      have hpi := Lib.hid (hps.out i hin)
      have hpi2 := hps2.out i hin
      have hat := Lib.hid (hMO.out.at hin hci.1)
      have hnx := Lib.hid fun (c' : List Int) => hMO.out.next (by omega) hps.out hps2.out (fun i hi => (hcn.out i hi).1) hlt hIi.out (c' := c')
      generalize TS i = ts at *
      generalize hy : ch i = y at *
      have hY := Lib.hid hy
      clear hy hin
      go_wp2_with (fail)
      refine (hC.out _ hBL.out).mono ?_
      rintro e w3 ⟨TA, tc, rfl, hown, hb3⟩
      have hRS := Lib.hid hown.rs
      have hz3 := hb3.size
      have hB3 := Lib.hid (hBL.out.trans (hb3.mono hBL.out.size))
      have hO3 := Lib.hid ((hOW.out.below hb3 (Nat.le_refl _)).more hz3)
      have hC3' := Lib.hid (hOC.out.below hb3 hz2r)
      have hI3 := Lib.hid (hIB.out.below hb3 hIB.out.lt)
      have hml : (ts.map Ti.num).length = ts.length := List.length_map _
      have hclen := hMO.out.len
      rw [hml]
      clear hown hb3
      generalize hpp : K y = p at *
      have hPP := Lib.hid hpp
      clear hpp
      go_wp2_with (fail)
      go_loopw [35] (fun u wr => ∃ j : Nat, j ≤ ts.length ∧ u = .int .i64 j ∧ OW wr w1.heap.size w2.heap.size (.slice (some ⟨q, 0, none⟩) (m + 1) cc) (bcJ cv i (fstTo K p ts j)) ∧ Chg q (q + 1) w3 wr) (fun u _ => ts.length - (intOf u).toNat)
      case atStart => exact ⟨0, Nat.zero_le _, rfl, by rw [fstTo_zero, bcJ_none]; exact hC3'.out, Chg.refl _ _ _⟩
      case round =>
        obtain ⟨j, hj, rfl, hoj, hch⟩ := hrel
        have hOJ := Lib.hid hoj
        have hCJ := Lib.hid hch
        have hIJ := Lib.hid ((show IB _ g 3 P from (hCJ.out.block g hI3.out.lt (.inl (by omega))).trans hI3.out))
        have hBJ := Lib.hid (below_chg hB3.out hCJ.out hB3.out.size (Nat.le_trans z1 hq1))
        clear hoj hch
        by_cases hltj : j < ts.length
        · obtain ⟨tb, to', rfl, ⟨_, htb⟩, hcc⟩ := (hRS.out.chg hCJ.out (Nat.le_refl _) (.inr (by omega))) (by rw [hml]; omega)
          have t1 := hcc j (by rw [hml]; exact hltj)
          rw [List.getElem_map] at t1
          have hil : i < cv.length := by rw [hclen]; exact hinh.out
          have hbl := bcJ_len cv i (fstTo K p ts j)
          obtain ⟨c1, f1⟩ := hOJ.out.at2 i (by rw [hbl]; exact hil)
          have p1 := hIJ.out.cell i (by rw [hpl.out]; exact hinh.out)
          rw [show P[i]'(by rw [hpl.out]; exact hinh.out) = P.getD i 0 from (getD_get (by rw [hpl.out]; exact hinh.out)).symm, hpr.out] at p1
          have hsk := Lib.hid (bcJ_skip (K := K) (p := p) hltj hil)
          have hye := Lib.hid (bcJ_yes (K := K) (p := p) hltj hil hnum.out)
          have hno := Lib.hid (bcJ_no (K := K) (p := p) hltj hil hnum.out)
          have hWt := Lib.hid (fun (W : World) (hI : IB W g 3 P) (hW : Below w.heap.size w W) => hC3.out ts[j] (List.getElem_mem _) g W hI hW)
          have hji : (j : Int) < (ts.length : Int) := by omega
          have hj0 : (0 : Int) ≤ (j : Int) := by omega
          have hjh := Lib.hid hltj
          generalize hcn : bcJ cv i (fstTo K p ts (j + 1)) = cn at *
          have hCN := Lib.hid hcn
          clear hcn
          generalize bcJ cv i (fstTo K p ts j) = cj at *
          generalize hkj : K ts[j] = kj at *
          have hKJ := Lib.hid hkj
          clear hkj
          generalize (ts[j]).num = tn at *
          have hgl1 := hIJ.out.lt
          have hql : q < wr.heap.size := by have := hCJ.out.size; omega
          clear hcc
          by_cases hv : cj.getD i 0 < 0
          · have hye' := Lib.hid (hye.out hv)
            have hno' := Lib.hid (hno.out hv)
            clear hsk hye hno
            generalize cj.getD i 0 = v0 at *
            have hBd := Lib.hid (Below.refl wr.heap.size wr).drew
            go_wp2_with (fail)
            go_region_held3 (fun w' => w'.cell? ⟨q, i, none⟩ = some (.int .i64 v0) ∧ w'.cell? ⟨g, i, none⟩ = some (.int .i64 p)) (first | exact ⟨(hb4.cell (p := ⟨q, i, none⟩) hql).trans c1, (hb4.cell (p := ⟨g, i, none⟩) hgl1).trans p1⟩ | go_keep) ((go_at_call 109; refine (hWt.out _ (hIJ.out.below hBd.out hgl1) (hBJ.out.trans (hBd.out.mono hBJ.out.size))).mono ?_; rintro e w4 ⟨rfl, hb4⟩; have hB4 := Lib.hid (hBd.out.trans (hb4.mono hBd.out.size))))
            have hw2r : w2.heap.size ≤ wr.heap.size := by have := hCJ.out.size; omega
            have hO4 := Lib.hid (hOJ.out.below (hBd.out.trans (hb4.mono hBd.out.size)) hw2r)
            have hC4c := Lib.hid (hCJ.out.trans (Chg.ofBelow (lo := q) (hi := q + 1) hB4.out))
            obtain ⟨d1, f4⟩ := hO4.out.at2 i (by rw [hbl]; exact hil)
            have hOs := Lib.hid (hO4.out.put2 i tn)
            have hCs := Lib.hid (hC4c.out.setCell (p := ⟨q, i, none⟩) ⟨Nat.le_refl _, Nat.lt_succ_self _⟩ (.int .i64 tn))
            clear hb4 c1 f1
            generalize cj.getD i 0 = v1 at *
            by_cases hq : kj = p
            · have hs := Lib.hid (hye'.out hq)
              have hqb : (kj == p) = true := by simpa using hq
              clear hye' hno'
              go_wp2
              go_roundw
              case rel => exact ⟨j + 1, hjh.out, by go_num, by rw [hCN.out, hs.out]; exact hOs.out, hCs.out⟩
              case measure => simp [intOf]; omega
            · have hs := Lib.hid (hno'.out hq)
              have hqb : (kj == p) = false := by simpa using hq
              clear hye' hno'
              go_wp2
              go_roundw
              case rel => exact ⟨j + 1, hjh.out, by go_num, by rw [hCN.out, hs.out]; exact hO4.out, hC4c.out⟩
              case measure => simp [intOf]; omega
          · have hsk' := Lib.hid (hsk.out hv)
            clear hsk hye hno
            generalize cj.getD i 0 = v0 at *
            have hvb : decide (v0 < 0) = false := decide_eq_false hv
            go_wp2_with (fail)
            go_quiet (fail)
            go_wp2
            go_roundw
            case rel => exact ⟨j + 1, hjh.out, by go_num, by rw [hCN.out, hsk'.out]; exact hOJ.out, ⟨hCJ.out.os, hCJ.out.tape, hCJ.out.output, hCJ.out.size, hCJ.out.block⟩⟩
            case measure => simp [intOf]; omega
        · obtain rfl : j = ts.length := by omega
          rw [hfa.out] at hOJ
          have hil : i < cv.length := by rw [hclen]; exact hinh.out
          have hbl := bcJ_len cv i (some y)
          obtain ⟨c1, f1⟩ := hOJ.out.at2 i (by rw [hbl]; exact hil)
          rw [hat.out] at c1
          have hNx := Lib.hid (hnx.out _ (bcJ_some cv i y))
          have hOW3 := Lib.hid (hO3.out.chg hCJ.out (.inr (by omega)))
          have hwr3 := hCJ.out.size
          clear hnx hat
          generalize bcJ cv i (some y) = cn at *
          go_wp2_with (fail)
          refine (hC4.out _ hBJ.out).mono ?_
          rintro e w5 ⟨PA, pc, QA, qc, rfl, hp, _, hb5⟩
          dsimp only [Option.map_some, Option.getD_some, Option.isSome_some] at hp ⊢
          have hnews := Lib.hid hp.rs.news
          have hw5 := hb5.size
          have hO5 := Lib.hid ((hOW3.out.more hwr3).below hb5 (Nat.le_refl _))
          have hO5b := Lib.hid (hO5.out.more hw5)
          have hC5 := Lib.hid (hOJ.out.below hb5 (by omega))
          have hI5 := Lib.hid (hIJ.out.below hb5 hIJ.out.lt)
          have hB5 := Lib.hid (hBJ.out.trans (hb5.mono hBJ.out.size))
          clear hp hb5
          go_wp2_with (at_builtin; go_loud (refine wpList_append_src rfl (.tmp 72) (.tmp 73) 23 rfl w2.heap.size 3 i0 (.int .i64 0) 1 8 Try.underlying23 hI.out hZ0.out hZ1.out hZ2.out rfl (by decide) _ o.length _ rfl hO5b.out.1 PA y.ps.length pc (y.ps.map (Value.int .i64)) rfl (by simp) hnews.out (oneI _) (by unfold maxLen; omega) (by omega) (by omega) ?_); intro v' w6 hown6 hgr6 _)
          replace hgr6 : w5.grownBy w6 (some ob) := hgr6
          have R1 := Lib.hid (OW.ofRow (n := o.length + y.ps.length) (xs := o ++ y.ps) (by rw [List.map_append]; exact hown6) (by simp))
          have R2 := Lib.hid (hC5.out.kept hgr6 (fun b e => by cases e; right; omega))
          have R3 := Lib.hid ((show IB _ g 3 P from (hgr6.block g hI5.out.lt (fun e => by cases e; omega)).trans hI5.out))
          have R4 := Lib.hid (hB5.out.grown hgr6 hB5.out.size (fun b e => by cases e; omega))
          have R5 := hgr6.size
          obtain ⟨VA, vc, rfl, _⟩ := R1.out.form
          clear hown6 hgr6
          go_wp2
          go_roundw
          case rel => exact ⟨k + 1, o ++ y.ps, cn, R1.out, by go_num, hNx.out, R2.out, R4.out, R3.out, by omega⟩
          case measure => simp [intOf]; omega
    · have hce := Lib.hid (hmo.last (by omega) hps.out (by omega))
      go_wp2
      go_ret
      exact ⟨some ⟨q, 0, none⟩, cc, by rw [chR_len]; rfl, by rw [chR_len, ← hce.out]; exact (hOC.out.lower z1).more hz2r, hBL.out⟩
end Go.Proofs.Ytgcbfiamhpfkhaa

/- The model's largest cover. -/
namespace Go.Proofs.Ytgcbfiamhpfkhaa
open Go.RowKit
set_option linter.unusedVariables false
set_option maxRecDepth 100000

theorem kG_lt {x y : Ti} (hx : 0 ≤ x.c ∧ x.c ≤ 4) (hy : 0 ≤ y.c ∧ y.c ≤ 4) : kG x < kG y ↔ (y.ins.length < x.ins.length ∨ (x.ins.length = y.ins.length ∧ x.c < y.c)) := by unfold kG; omega
set_option maxHeartbeats 4000000 in
theorem cvLarger_any (L B : Nat) (A : Option Addr) (c : Nat) (es : List Nd) (k : Nat) (hk : k < es.length) (x y : Ti) (hx : x ∈ tsN es k) (hy : y ∈ tsN es k) (w : World) (hok : okFrom es 0 = true) (hes : NS w L B A es) (hB : B ≤ w.heap.size) :
    Calls Try.prog 72 #[.slice A es.length c, .int .i64 (k : Int), .int .i64 x.num, .int .i64 y.num] w fun e w' => e = .returned (.bool (decide (kG x < kG y))) ∧ Below w.heap.size w w' := by
  obtain ⟨t, ht, he, hc, hm⟩ := tsN_c hk hx
  obtain ⟨t', ht', he', hc', hm'⟩ := tsN_c hk hy
  have hcb : 0 ≤ x.c ∧ x.c ≤ 4 := by rw [hc]; exact ctN_bd _ _
  have hcb' : 0 ≤ y.c ∧ y.c ≤ 4 := by rw [hc']; exact ctN_bd _ _
  have hD := Lib.hid (kG_lt hcb hcb')
  have H1 := Lib.hid fun (W : World) (hW : Below w.heap.size w W) => (show Calls Try.prog 73 #[.slice A es.length c, .int .i64 (k : Int), .int .i64 x.num] W (TileM W (some x)) from by rw [he, ← hm]; exact cvTile_n L B A c es k hk t ht W (hes.below hW hB) (Nat.le_trans hB hW.size) hok)
  have H2 := Lib.hid fun (W : World) (hW : Below w.heap.size w W) => (show Calls Try.prog 73 #[.slice A es.length c, .int .i64 (k : Int), .int .i64 y.num] W (TileM W (some y)) from by rw [he', ← hm']; exact cvTile_n L B A c es k hk t' ht' W (hes.below hW hB) (Nat.le_trans hB hW.size) hok)
  have H3 := Lib.hid fun (W : World) (hW : Below w.heap.size w W) => (show Calls Try.prog 125 #[.slice A es.length c, .int .i64 (k : Int), .int .i64 x.num] W fun e w' => e = .returned (.int .i64 x.c) ∧ W = w' from by rw [he, hc]; exact cvCost_any L B A c es k t hk W (hes.below hW hB))
  have H4 := Lib.hid fun (W : World) (hW : Below w.heap.size w W) => (show Calls Try.prog 125 #[.slice A es.length c, .int .i64 (k : Int), .int .i64 y.num] W fun e w' => e = .returned (.int .i64 y.c) ∧ W = w' from by rw [he', hc']; exact cvCost_any L B A c es k t' hk W (hes.below hW hB))
  clear he hc hm he' hc' hm' hok hes hx hy hk
  have b0 := Lib.hid (Below.refl w.heap.size w)
  generalize es.length = n at *
  obtain ⟨xn, xps, xins, xc⟩ := x
  obtain ⟨yn, yps, yins, yc⟩ := y
  dsimp only at H1 H2 H3 H4 hD hcb hcb'
  obtain ⟨u, hu⟩ : ∃ u, xins.length = u := ⟨_, rfl⟩
  obtain ⟨v, hv⟩ : ∃ v, yins.length = v := ⟨_, rfl⟩
  rw [hu, hv] at hD
  have hU := Lib.hid hu
  have hV := Lib.hid hv
  clear hu hv
  generalize hRe : decide (kG ⟨xn, xps, xins, xc⟩ < kG ⟨yn, yps, yins, yc⟩) = R at *
  have hRR := Lib.hid hRe
  clear hRe
  by_cases h1 : v < u
  · have hR := Lib.hid (show R = true from by rw [← hRR.out]; exact decide_eq_true (hD.out.2 (.inl h1)))
    have h1i : (v : Int) < (u : Int) := by omega
    clear hD h1 hRR
    dsimp only
    go_enter Try.func72, Try.ntmps72
    go_wp2_with (first
      | (go_at_call 73; (with_reducible refine (H1.out _ b0.out).mono ?_); clear H1; rintro e w1 ⟨PA, pc, QA, qc, rfl, _, _, hb1⟩; dsimp only [Option.map_some, Option.getD_some, Option.isSome_some]; rw [hU.out]; have hb1h := Lib.hid hb1; clear hb1)
      | (go_at_call 73; (with_reducible refine (H2.out _ hb1h.out).mono ?_); clear H2; rintro e w2 ⟨PA2, pc2, QA2, qc2, rfl, _, _, hb2⟩; dsimp only [Option.map_some, Option.getD_some, Option.isSome_some]; rw [hV.out]; have hb2h := Lib.hid (hb1h.out.trans (hb2.mono hb1h.out.size)); clear hb2)
      | (go_at_call 125; (with_reducible refine (H3.out _ hb2h.out).mono ?_); clear H3; rintro e w3 ⟨rfl, rfl⟩)
      | (go_at_call 125; (with_reducible refine (H4.out _ hb2h.out).mono ?_); clear H4; rintro e w3 ⟨rfl, rfl⟩))
    go_ret
    exact ⟨ret_bool hR.out.symm, hb2h.out⟩
  by_cases h2 : u = v
  · subst h2
    by_cases h3 : xc < yc
    · have hR := Lib.hid (show R = true from by rw [← hRR.out]; exact decide_eq_true (hD.out.2 (.inr ⟨rfl, h3⟩)))
      clear hD h1 hRR
      dsimp only
      go_enter Try.func72, Try.ntmps72
      go_wp2_with (first
        | (go_at_call 73; (with_reducible refine (H1.out _ b0.out).mono ?_); clear H1; rintro e w1 ⟨PA, pc, QA, qc, rfl, _, _, hb1⟩; dsimp only [Option.map_some, Option.getD_some, Option.isSome_some]; rw [hU.out]; have hb1h := Lib.hid hb1; clear hb1)
        | (go_at_call 73; (with_reducible refine (H2.out _ hb1h.out).mono ?_); clear H2; rintro e w2 ⟨PA2, pc2, QA2, qc2, rfl, _, _, hb2⟩; dsimp only [Option.map_some, Option.getD_some, Option.isSome_some]; rw [hV.out]; have hb2h := Lib.hid (hb1h.out.trans (hb2.mono hb1h.out.size)); clear hb2)
        | (go_at_call 125; (with_reducible refine (H3.out _ hb2h.out).mono ?_); clear H3; rintro e w3 ⟨rfl, rfl⟩)
        | (go_at_call 125; (with_reducible refine (H4.out _ hb2h.out).mono ?_); clear H4; rintro e w3 ⟨rfl, rfl⟩))
      go_ret
      exact ⟨ret_bool hR.out.symm, hb2h.out⟩
    · have hR := Lib.hid (show R = false from by rw [← hRR.out]; exact decide_eq_false (fun h => (hD.out.1 h).elim (fun h => absurd h (Nat.lt_irrefl _)) (fun h => h3 h.2)))
      clear hD h1 hRR
      dsimp only
      go_enter Try.func72, Try.ntmps72
      go_wp2_with (first
        | (go_at_call 73; (with_reducible refine (H1.out _ b0.out).mono ?_); clear H1; rintro e w1 ⟨PA, pc, QA, qc, rfl, _, _, hb1⟩; dsimp only [Option.map_some, Option.getD_some, Option.isSome_some]; rw [hU.out]; have hb1h := Lib.hid hb1; clear hb1)
        | (go_at_call 73; (with_reducible refine (H2.out _ hb1h.out).mono ?_); clear H2; rintro e w2 ⟨PA2, pc2, QA2, qc2, rfl, _, _, hb2⟩; dsimp only [Option.map_some, Option.getD_some, Option.isSome_some]; rw [hV.out]; have hb2h := Lib.hid (hb1h.out.trans (hb2.mono hb1h.out.size)); clear hb2)
        | (go_at_call 125; (with_reducible refine (H3.out _ hb2h.out).mono ?_); clear H3; rintro e w3 ⟨rfl, rfl⟩)
        | (go_at_call 125; (with_reducible refine (H4.out _ hb2h.out).mono ?_); clear H4; rintro e w3 ⟨rfl, rfl⟩))
      go_ret
      exact ⟨ret_bool (by rw [hR.out]; exact decide_eq_false (by omega)), hb2h.out⟩
  · have hR := Lib.hid (show R = false from by rw [← hRR.out]; exact decide_eq_false (fun h => (hD.out.1 h).elim h1 (fun h => h2 h.1)))
    have h1i : ¬ (v : Int) < (u : Int) := by omega
    have h2i : ¬ (u : Int) = (v : Int) := by omega
    have h2b : ((u : Int) == (v : Int)) = false := by simpa using h2i
    clear hD h1 h2 hRR
    dsimp only
    go_enter Try.func72, Try.ntmps72
    go_wp2_with (first
      | (go_at_call 73; (with_reducible refine (H1.out _ b0.out).mono ?_); clear H1; rintro e w1 ⟨PA, pc, QA, qc, rfl, _, _, hb1⟩; dsimp only [Option.map_some, Option.getD_some, Option.isSome_some]; rw [hU.out]; have hb1h := Lib.hid hb1; clear hb1)
      | (go_at_call 73; (with_reducible refine (H2.out _ hb1h.out).mono ?_); clear H2; rintro e w2 ⟨PA2, pc2, QA2, qc2, rfl, _, _, hb2⟩; dsimp only [Option.map_some, Option.getD_some, Option.isSome_some]; rw [hV.out]; have hb2h := Lib.hid (hb1h.out.trans (hb2.mono hb1h.out.size)); clear hb2)
      | (go_at_call 125; (with_reducible refine (H3.out _ hb2h.out).mono ?_); clear H3; rintro e w3 ⟨rfl, rfl⟩)
      | (go_at_call 125; (with_reducible refine (H4.out _ hb2h.out).mono ?_); clear H4; rintro e w3 ⟨rfl, rfl⟩))
    go_ret
    exact ⟨ret_bool hR.out.symm, hb2h.out⟩
/-- The cover when some tiles of a node have been looked at. -/
def lcJ (K : Ti → Int) (ts : List Ti) (c : List Int) (i : Nat) : Nat → List Int
  | 0 => c
  | j + 1 => if c.getD i 0 < 0 then c.set i (minTo K ts j).num else c
theorem lcJ_zero (K : Ti → Int) (ts : List Ti) (c : List Int) (i : Nat) : lcJ K ts c i 0 = c := rfl
theorem lcJ_len (K : Ti → Int) (ts : List Ti) (c : List Int) (i : Nat) : ∀ j, (lcJ K ts c i j).length = c.length
  | 0 => rfl
  | j + 1 => by show (if _ then _ else _ : List Int).length = _; split <;> simp
theorem lcJ_all {K : Ti → Int} {ts : List Ti} (c : List Int) (i : Nat) (h : 0 < ts.length) : lcJ K ts c i ts.length = bcJ c i (some (chK K ts)) := by
  obtain ⟨d, hd⟩ : ∃ d, ts.length = d + 1 := ⟨ts.length - 1, by omega⟩
  have e : chK K ts = minTo K ts d := by unfold chK; rw [hd, Nat.add_sub_cancel]
  rw [bcJ_some, hd, e]; rfl
theorem lcJ_open {K : Ti → Int} {ts : List Ti} {c : List Int} {i j : Nat} (hj : j < ts.length) (hi : i < c.length) (hn : ∀ x ∈ ts, 0 ≤ x.num) (h : (lcJ K ts c i j).getD i 0 < 0) : lcJ K ts c i (j + 1) = (lcJ K ts c i j).set i ts[j].num := by
  cases j with
  | zero =>
    show (if _ then _ else _ : List Int) = _
    rw [lcJ_zero] at h
    rw [if_pos h, minTo_zero, getDT hj, lcJ_zero]
  | succ j =>
    exfalso
    have e : lcJ K ts c i (j + 1) = if c.getD i 0 < 0 then c.set i (minTo K ts j).num else c := rfl
    rw [e] at h
    by_cases hc : c.getD i 0 < 0
    · rw [if_pos hc, getDI_set _ _ _ hi, if_pos rfl] at h
      obtain ⟨m, hm, _, he, _⟩ := minTo_at K ts j (by omega)
      have := hn (minTo K ts j) (by rw [he]; exact List.getElem_mem _)
      omega
    · rw [if_neg hc] at h; exact hc h
theorem lcJ_step {K : Ti → Int} {ts : List Ti} {c : List Int} {i j : Nat} (hj : j < ts.length) (hi : i < c.length) (hc : c.getD i 0 < 0 ∨ c.getD i 0 = (chK K ts).num) (h : ¬ (lcJ K ts c i j).getD i 0 < 0) :
    ∃ y, y ∈ ts ∧ y.num = (lcJ K ts c i j).getD i 0 ∧ (K ts[j] < K y → lcJ K ts c i (j + 1) = (lcJ K ts c i j).set i ts[j].num) ∧ (¬ K ts[j] < K y → lcJ K ts c i (j + 1) = lcJ K ts c i j) := by
  by_cases h0 : c.getD i 0 < 0
  · cases j with
    | zero => rw [lcJ_zero] at h; exact absurd h0 h
    | succ j =>
      have e : lcJ K ts c i (j + 1) = c.set i (minTo K ts j).num := if_pos h0
      have e2 : lcJ K ts c i (j + 1 + 1) = c.set i (minTo K ts (j + 1)).num := if_pos h0
      obtain ⟨m, hm, _, he, _⟩ := minTo_at K ts j (by omega)
      refine ⟨minTo K ts j, by rw [he]; exact List.getElem_mem _, by rw [e, getDI_set _ _ _ hi, if_pos rfl], fun hq => ?_, fun hq => ?_⟩
      · rw [e, e2, minTo_less (by rw [getDT hj]; exact hq), getDT hj, List.set_set]
      · rw [e, e2, minTo_keep (by rw [getDT hj]; exact hq)]
  · have hc' := hc.resolve_left h0
    have e : ∀ j, lcJ K ts c i j = c := fun j => by cases j with | zero => rfl | succ j => exact if_neg h0
    rw [e, e]
    exact ⟨chK K ts, chK_mem (by omega), hc'.symm, fun hq => by have := chK_le (K := K) ts[j] (List.getElem_mem hj); omega, fun _ => rfl⟩
theorem MoInv.or {n : Nat} {ch : Nat → Ti} {k : Nat} {o c : List Int} (h : MoInv n ch k o c) {i : Nat} (hi : i < n) : c.getD i 0 < 0 ∨ c.getD i 0 = (ch i).num := by
  by_cases hm : ∃ m, m < k ∧ m < o.length ∧ (o.getD m 0).toNat = i
  · exact .inr (h.pos i hi hm)
  · have := h.neg i hi hm; left; omega

set_option maxHeartbeats 8000000 in
theorem sLargest_go (L B : Nat) (A : Option Addr) (c : Nat) (es : List Nd) (w : World) (ht : treeR es = true) (hes : NS w L B A es) (hB : B ≤ w.heap.size) :
    Calls Try.prog 28 #[.slice A es.length c] w (IntsRes w (chR es.length (chE kG es)) true) := by
  have hg : good es = true := by unfold treeR at ht; simp only [Bool.and_eq_true] at ht; exact ht.1
  obtain ⟨hl1, hl24, hok⟩ := good_len hg
  obtain ⟨i0, hi, hz0, hz1, hz2⟩ := info_parts Try.infoInt
  have hI := Lib.hid hi
  have hZ0 := Lib.hid hz0
  have hZ1 := Lib.hid hz1
  have hZ2 := Lib.hid hz2
  clear hi hz0 hz1 hz2
  have HT := Lib.hid (cvTree_any L B A c es w (by omega) hes hB)
  rw [ht] at HT
  have HN := Lib.hid fun (W : World) => cvNone_any A c es.length W hl24
  have H2 := Lib.hid fun (k : Nat) (hk : k < es.length) (W : World) (hW : Below w.heap.size w W) => (show Calls Try.prog 71 #[.slice A es.length c, .int .i64 (k : Int)] W (OwnIs W ((tsN es k).map Ti.num)) from by rw [tsN_eq hk, ← numsTo_all]; exact cvTiles_any L B A c es k hk W (hes.below hW hB) (Nat.le_trans hB hW.size) hok)
  have H3 := Lib.hid fun (k : Nat) (hk : k < es.length) (x y : Ti) (hx : x ∈ tsN es k) (hy : y ∈ tsN es k) (W : World) (hW : Below w.heap.size w W) => cvLarger_any L B A c es k hk x y hx hy W hok (hes.below hW hB) (Nat.le_trans hB hW.size)
  have H4 := Lib.hid fun (k : Nat) (hk : k < es.length) (W : World) (hW : Below w.heap.size w W) => (show Calls Try.prog 73 #[.slice A es.length c, .int .i64 (k : Int), .int .i64 (chE kG es k).num] W (TileM W (some (chE kG es k))) from by
    obtain ⟨t, ht13, he, _, hm⟩ := tsN_c hk (chE_mem hok kG hk)
    rw [he, ← hm]; exact cvTile_n L B A c es k hk t ht13 W (hes.below hW hB) (Nat.le_trans hB hW.size) hok)
  have hLn := Lib.hid fun (k : Nat) => (show (tsN es k).length ≤ 13 from tilesL_len _ _)
  have hNum := Lib.hid fun (k : Nat) (hk : k < es.length) => (show ∀ x ∈ tsN es k, 0 ≤ x.num from fun x hx => by obtain ⟨t, _, he, _⟩ := tsN_c hk hx; omega)
  have hFa := Lib.hid fun (k : Nat) (hk : k < es.length) (c : List Int) => (show lcJ kG (tsN es k) c k (tsN es k).length = bcJ c k (some (chE kG es k)) from lcJ_all c k (tsN_pos hok hk))
  have hSt := Lib.hid fun (k : Nat) (hk : k < es.length) => (show ∀ (c : List Int) (j : Nat) (hj : j < (tsN es k).length) (hi : k < c.length) (hc : c.getD k 0 < 0 ∨ c.getD k 0 = (chE kG es k).num) (h : ¬ (lcJ kG (tsN es k) c k j).getD k 0 < 0), ∃ y, y ∈ tsN es k ∧ y.num = (lcJ kG (tsN es k) c k j).getD k 0 ∧ (kG (tsN es k)[j] < kG y → lcJ kG (tsN es k) c k (j + 1) = (lcJ kG (tsN es k) c k j).set k (tsN es k)[j].num) ∧ (¬ kG (tsN es k)[j] < kG y → lcJ kG (tsN es k) c k (j + 1) = lcJ kG (tsN es k) c k j) from fun c j hj hi hc h => lcJ_step hj hi hc h)
  have hps := Lib.hid (chE_ps hok kG)
  have hps2 := Lib.hid (chE_ps2 hok kG)
  have hcn := Lib.hid (chE_num hok kG)
  have hM0 := Lib.hid (MoInv.first (chE kG es) hl1 hl24)
  clear ht hg hes hB hok
  generalize hKG : kG = K at *
  have hKg := Lib.hid hKG
  clear hKG
  generalize chE K es = ch at *
  generalize tsN es = TS at *
  generalize es.length = n at *
  obtain ⟨m, rfl⟩ : ∃ m, n = m + 1 := ⟨n - 1, by omega⟩
  have hw1 : IntKind.i64.wrap ((m : Int) + 1 - 1) = (m : Int) := by rw [IntKind.wrap_i64]; omega
  have hcm : ((m + 1 : Nat) : Int) = (m : Int) + 1 := by omega
  have hm0 : ((m + 1 : Nat) : Int) - 1 = (m : Int) := by omega
  rw [hm0] at hM0
  clear hm0
  go_enter Try.func28, Try.ntmps28
  go_wp2_with (first | (go_at_call 53; refine HT.out.mono ?_; rintro e w1 ⟨rfl, hb1⟩; have hb1h := Lib.hid hb1; clear hb1) | (go_at_call 70; refine (HN.out _).mono ?_; rintro e w2 ⟨CA, cc, rfl, hown, hb2⟩; have hO2 := Lib.hid hown; have hb2h := Lib.hid hb2; clear hown hb2))
  have hl2 : (List.replicate (m + 1) (-1 : Int)).length = m + 1 := List.length_replicate
  obtain ⟨q, rfl, hq1, hq2⟩ := hO2.out.some2 (by rw [hl2]; omega)
  rw [hl2] at hO2
  clear hl2
  have z1 := hb1h.out.size
  have b2 := Lib.hid (hb1h.out.trans (hb2h.out.mono z1))
  have z2 := hb2h.out.size
  have hIO : IB (w2.alloc (.cells #[.int .i64 (m : Int)] 3)) w2.heap.size 3 [(m : Int)] := heap_alloc_new w2 _
  have ba := Lib.hid ((Below.refl w2.heap.size w2).alloc (Nat.le_refl _) (.cells #[.int .i64 (m : Int)] 3))
  have hOo := Lib.hid (OW.ofIB' (lo := w2.heap.size) (hi := (w2.alloc (.cells #[.int .i64 (m : Int)] 3)).heap.size) hIO (by simp) (Nat.le_refl _) (by simp))
  have hOc := Lib.hid (hO2.out.below ba.out (Nat.le_refl _))
  have hBa := Lib.hid (b2.out.trans (ba.out.mono (Nat.le_trans z1 z2)))
  have hz0 := ba.out.size
  clear hIO hO2 hb1h hb2h ba
  generalize w2.alloc (.cells #[.int .i64 (m : Int)] 3) = W0 at *
  go_loopw [5, 6] (fun v u wr => ∃ (k : Nat) (o cv : List Int), OW wr w2.heap.size wr.heap.size v o ∧ u = .int .i64 k ∧ MoInv (m + 1) ch k o cv ∧ OW wr w1.heap.size w2.heap.size (.slice (some ⟨q, 0, none⟩) (m + 1) cc) cv ∧ Below w.heap.size w wr ∧ w2.heap.size ≤ wr.heap.size) (fun _ u _ => 94143178828 - (intOf u).toNat)
  case atStart => exact ⟨0, [(m : Int)], List.replicate (m + 1) (-1), hOo.out, rfl, hM0.out, hOc.out, hBa.out, hz0⟩
  case round =>
    obtain ⟨k, o, cv, how, rfl, hmo, hoc, hbel, hz2r⟩ := hrel
    obtain ⟨OA, oc, rfl, _⟩ := how.form
    have hOW := Lib.hid how
    have hMO := Lib.hid hmo
    have hOC := Lib.hid hoc
    have hBL := Lib.hid hbel
    have hbd := hmo.bound
    clear hoc hbel
    by_cases hlt : k < o.length
    · obtain ⟨ob, rfl, hob1, hob2⟩ := how.some2 (by omega)
      obtain ⟨x1, _⟩ := how.at2 k hlt
      obtain ⟨hi0, hi1⟩ := hmo.rng (o.getD k 0) (by rw [getD_get hlt]; exact List.getElem_mem _)
      clear how hmo
      obtain ⟨i, hi⟩ := Int.eq_ofNat_of_zero_le hi0
      rw [hi] at x1 hi1
      have hIi := Lib.hid hi
      clear hi hi0
      have hin : i < m + 1 := by omega
      have hinh := Lib.hid hin
      have hii : (i : Int) < (m : Int) + 1 := by omega
      have hi00 : (0 : Int) ≤ (i : Int) := by omega
      have hkl : (k : Int) < (o.length : Int) := by omega
      have hk0 : (0 : Int) ≤ (k : Int) := by omega
      have hC := Lib.hid (H2.out i hin)
      have hC3 := Lib.hid (H3.out i hin)
      have hC4 := Lib.hid (H4.out i hin)
      have hnum := Lib.hid (hNum.out i hin)
      have hst := Lib.hid (hSt.out i hin)
      have hor := Lib.hid (hMO.out.or hin)
      have hfa := Lib.hid (hFa.out i hin)
      have hlk := hLn.out i
      have hci := hcn.out i hin
      have hpi := Lib.hid (hps.out i hin)
      have hpi2 := hps2.out i hin
      have hat := Lib.hid (hMO.out.at hin hci.1)
      have hnx := Lib.hid fun (c' : List Int) => hMO.out.next (by omega) hps.out hps2.out (fun i hi => (hcn.out i hi).1) hlt hIi.out (c' := c')
      generalize TS i = ts at *
      generalize hy : ch i = y at *
      have hY := Lib.hid hy
      clear hy hin
      go_wp2_with (fail)
      refine (hC.out _ hBL.out).mono ?_
      rintro e w3 ⟨TA, tc, rfl, hown, hb3⟩
      have hRS := Lib.hid hown.rs
      have hz3 := hb3.size
      have hB3 := Lib.hid (hBL.out.trans (hb3.mono hBL.out.size))
      have hO3 := Lib.hid ((hOW.out.below hb3 (Nat.le_refl _)).more hz3)
      have hC3' := Lib.hid (hOC.out.below hb3 hz2r)
      have hml : (ts.map Ti.num).length = ts.length := List.length_map _
      have hclen := hMO.out.len
      rw [hml]
      clear hown hb3
      go_wp2_with (fail)
      go_loopw [36] (fun u wr => ∃ j : Nat, j ≤ ts.length ∧ u = .int .i64 j ∧ OW wr w1.heap.size w2.heap.size (.slice (some ⟨q, 0, none⟩) (m + 1) cc) (lcJ K ts cv i j) ∧ Chg q (q + 1) w3 wr) (fun u _ => ts.length - (intOf u).toNat)
      case atStart => exact ⟨0, Nat.zero_le _, rfl, by rw [lcJ_zero]; exact hC3'.out, Chg.refl _ _ _⟩
      case round =>
        obtain ⟨j, hj, rfl, hoj, hch⟩ := hrel
        have hOJ := Lib.hid hoj
        have hCJ := Lib.hid hch
        have hBJ := Lib.hid (below_chg hB3.out hCJ.out hB3.out.size (Nat.le_trans z1 hq1))
        clear hoj hch
        by_cases hltj : j < ts.length
        · obtain ⟨tb, to', rfl, ⟨_, htb⟩, hcc⟩ := (hRS.out.chg hCJ.out (Nat.le_refl _) (.inr (by omega))) (by rw [hml]; omega)
          have t1 := hcc j (by rw [hml]; exact hltj)
          rw [List.getElem_map] at t1
          have hil : i < cv.length := by rw [hclen]; exact hinh.out
          have hbl := lcJ_len K ts cv i j
          obtain ⟨c1, f1⟩ := hOJ.out.at2 i (by rw [hbl]; exact hil)
          have hop := Lib.hid (lcJ_open (K := K) hltj hil hnum.out)
          have hsp := Lib.hid (hst.out cv j hltj hil hor.out)
          have hWt := Lib.hid (fun (y : Ti) (hy : y ∈ ts) (W : World) (hW : Below w.heap.size w W) => hC3.out ts[j] y (List.getElem_mem _) hy W hW)
          have hji : (j : Int) < (ts.length : Int) := by omega
          have hj0 : (0 : Int) ≤ (j : Int) := by omega
          have hjh := Lib.hid hltj
          generalize hcn : lcJ K ts cv i (j + 1) = cn at *
          have hCN := Lib.hid hcn
          clear hcn
          generalize lcJ K ts cv i j = cj at *
          generalize ts[j] = x at *
          generalize x.num = tn at *
          have hw2r : w2.heap.size ≤ wr.heap.size := by have := hCJ.out.size; omega
          have hql : q < wr.heap.size := by omega
          have hOs := Lib.hid (hOJ.out.put2 i tn)
          have hCs := Lib.hid (hCJ.out.setCell (p := ⟨q, i, none⟩) ⟨Nat.le_refl _, Nat.lt_succ_self _⟩ (.int .i64 tn))
          clear hcc
          by_cases hv : cj.getD i 0 < 0
          · have hs := Lib.hid (hop.out hv)
            clear hop hsp
            generalize cj.getD i 0 = v0 at *
            go_wp2
            go_roundw
            case rel => exact ⟨j + 1, hjh.out, by go_num, by rw [hCN.out, hs.out]; exact hOs.out, hCs.out⟩
            case measure => simp [intOf]; omega
          · obtain ⟨yy, hyt, hyn, hs1, hs2⟩ := hsp.out (by omega)
            have hW := Lib.hid (hWt.out yy hyt wr hBJ.out)
            rw [hyn] at hW
            have hS1 := Lib.hid hs1
            have hS2 := Lib.hid hs2
            clear hop hsp hyn hs1 hs2
            generalize cj.getD i 0 = v0 at *
            generalize K x = kx at *
            generalize K yy = ky at *
            by_cases hq : kx < ky
            · have hs := Lib.hid (hS1.out hq)
              rw [decide_eq_true hq] at hW
              clear hS1 hS2
              go_wp2_with (go_at_call 72; refine hW.out.mono ?_; rintro e w4 ⟨rfl, hb4⟩; have hO4 := Lib.hid (hOJ.out.below hb4 hw2r); have hC4c := Lib.hid (hCJ.out.trans (Chg.ofBelow (lo := q) (hi := q + 1) hb4)); have hOs4 := Lib.hid (hO4.out.put2 i tn); have hCs4 := Lib.hid (hC4c.out.setCell (p := ⟨q, i, none⟩) ⟨Nat.le_refl _, Nat.lt_succ_self _⟩ (.int .i64 tn)); obtain ⟨d1, f4⟩ := hO4.out.at2 i (by rw [hbl]; exact hil); clear hb4)
              go_roundw
              case rel => exact ⟨j + 1, hjh.out, by go_num, by rw [hCN.out, hs.out]; exact hOs4.out, hCs4.out⟩
              case measure => simp [intOf]; omega
            · have hs := Lib.hid (hS2.out (by omega))
              rw [decide_eq_false hq] at hW
              clear hS1 hS2
              go_wp2_with (go_at_call 72; refine hW.out.mono ?_; rintro e w4 ⟨rfl, hb4⟩; have hO4 := Lib.hid (hOJ.out.below hb4 hw2r); have hC4c := Lib.hid (hCJ.out.trans (Chg.ofBelow (lo := q) (hi := q + 1) hb4)); have hOs4 := Lib.hid (hO4.out.put2 i tn); have hCs4 := Lib.hid (hC4c.out.setCell (p := ⟨q, i, none⟩) ⟨Nat.le_refl _, Nat.lt_succ_self _⟩ (.int .i64 tn)); obtain ⟨d1, f4⟩ := hO4.out.at2 i (by rw [hbl]; exact hil); clear hb4)
              go_roundw
              case rel => exact ⟨j + 1, hjh.out, by go_num, by rw [hCN.out, hs.out]; exact hO4.out, hC4c.out⟩
              case measure => simp [intOf]; omega
        · obtain rfl : j = ts.length := by omega
          rw [hfa.out cv] at hOJ
          have hil : i < cv.length := by rw [hclen]; exact hinh.out
          have hbl := bcJ_len cv i (some y)
          obtain ⟨c1, f1⟩ := hOJ.out.at2 i (by rw [hbl]; exact hil)
          rw [hat.out] at c1
          have hNx := Lib.hid (hnx.out _ (bcJ_some cv i y))
          have hOW3 := Lib.hid (hO3.out.chg hCJ.out (.inr (by omega)))
          have hwr3 := hCJ.out.size
          clear hnx hat
          generalize bcJ cv i (some y) = cn at *
          go_wp2_with (fail)
          refine (hC4.out _ hBJ.out).mono ?_
          rintro e w5 ⟨PA, pc, QA, qc, rfl, hp, _, hb5⟩
          dsimp only [Option.map_some, Option.getD_some, Option.isSome_some] at hp ⊢
          have hnews := Lib.hid hp.rs.news
          have hw5 := hb5.size
          have hO5 := Lib.hid ((hOW3.out.more hwr3).below hb5 (Nat.le_refl _))
          have hO5b := Lib.hid (hO5.out.more hw5)
          have hC5 := Lib.hid (hOJ.out.below hb5 (by omega))
          have hB5 := Lib.hid (hBJ.out.trans (hb5.mono hBJ.out.size))
          clear hp hb5
          go_wp2_with (at_builtin; go_loud (refine wpList_append_src rfl (.tmp 71) (.tmp 72) 23 rfl w2.heap.size 3 i0 (.int .i64 0) 1 8 Try.underlying23 hI.out hZ0.out hZ1.out hZ2.out rfl (by decide) _ o.length _ rfl hO5b.out.1 PA y.ps.length pc (y.ps.map (Value.int .i64)) rfl (by simp) hnews.out (oneI _) (by unfold maxLen; omega) (by omega) (by omega) ?_); intro v' w6 hown6 hgr6 _)
          replace hgr6 : w5.grownBy w6 (some ob) := hgr6
          have R1 := Lib.hid (OW.ofRow (n := o.length + y.ps.length) (xs := o ++ y.ps) (by rw [List.map_append]; exact hown6) (by simp))
          have R2 := Lib.hid (hC5.out.kept hgr6 (fun b e => by cases e; right; omega))
          have R4 := Lib.hid (hB5.out.grown hgr6 hB5.out.size (fun b e => by cases e; omega))
          have R5 := hgr6.size
          obtain ⟨VA, vc, rfl, _⟩ := R1.out.form
          clear hown6 hgr6
          go_wp2
          go_roundw
          case rel => exact ⟨k + 1, o ++ y.ps, cn, R1.out, by go_num, hNx.out, R2.out, R4.out, by omega⟩
          case measure => simp [intOf]; omega
    · have hce := Lib.hid (hmo.last (by omega) hps.out (by omega))
      go_wp2
      go_ret2
      exact ⟨some ⟨q, 0, none⟩, cc, by rw [chR_len]; rfl, by rw [chR_len, ← hce.out]; exact (hOC.out.lower z1).more hz2r, hBL.out⟩
end Go.Proofs.Ytgcbfiamhpfkhaa
