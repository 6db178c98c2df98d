/- Texts of this proof, one behind the other: GV, GW, AM, AP, AQ, RR. -/
import Derived.Test.YtgcbfiamhpfkhaaZ6
import Derived.Maps.OwnOps
import Derived.Maps.OwnSet
import Derived.Maps.Views
import Derived.WalkKit
import Derived.Lib.Hide
import Derived.Test.YtgcbfiamhpfkhaaZ9
import Derived.WalkSpells
import Derived.WalkLawsBesides
import Derived.Test.YtgcbfiamhpfkhaaZ5
import Derived.Deep.RegionHeld3
import Derived.Test.YtgcbfiamhpfkhaaEA
import Derived.RangeFuncNested
import Derived.RangeFuncCalls
import Derived.RangeFuncLeaves
import Derived.TacticsInMore
import Derived.OrdersIn
/- A map of ints by ints. -/
namespace Go.Proofs.Ytgcbfiamhpfkhaa
open Go.RowKit
open Go.Maps (Keyed)
set_option linter.unusedVariables false
set_option maxRecDepth 100000

theorem mpKey : Keyed Try.prog 3 := Maps.int_keyed Try.underlying3
theorem mpZero (w : World) : (zeroValue 3).run Try.prog w = .ok (.int .i64 0) w := by kernel_rfl
/-- Block b is a map whose answers f tells. -/
def MP (w : World) (b n : Nat) (f : Int → Int) : Prop :=
  ∃ D : DataW Unit, w.ownsMap Try.prog 3 (plainElem Try.prog 3) b n D ∧ ∀ i : Int, 0 ≤ i → i ≤ 1048576 → D.atKey (.int .i64 i) (.lit (.int .i64 0)) = .lit (.int .i64 (f i))
theorem wf_i64 {a : Int} (h1 : -9223372036854775808 ≤ a) (h2 : a ≤ 9223372036854775807) : (Lit.int .i64 a).wf = true := by
  have e1 : IntKind.i64.min = -9223372036854775808 := by decide
  have e2 : IntKind.i64.max = 9223372036854775807 := by decide
  simp only [Lit.wf, e1, e2, Bool.and_eq_true, decide_eq_true_eq]; omega
theorem MP.made (w : World) : MP (w.alloc (.map #[] 0)) w.heap.size 0 (fun _ => 0) := ⟨.map [], w.ownsMap_made _ _ _, fun i _ _ => rfl⟩
theorem MP.lt {w : World} {b n : Nat} {f : Int → Int} (h : MP w b n f) : b < w.heap.size := h.choose_spec.1.lt
theorem MP.kept {w w' : World} {b n : Nat} {f : Int → Int} {row : Option Nat} (h : MP w b n f) (hg : w.grownBy w' row) (hne : some b ≠ row) : MP w' b n f := by
  obtain ⟨D, hD, hf⟩ := h
  exact ⟨D, hD.kept hg hne, hf⟩
theorem MP.next {w w' : World} {b n : Nat} {f : Int → Int} (h : MP w b n f) (hb : Below w.heap.size w w') : MP w' b n f := by
  obtain ⟨D, ⟨es, clock, hh, F, hs, hD⟩, hf⟩ := h
  exact ⟨D, ⟨es, clock, (hb.block b (Array.getElem?_eq_some_iff.1 hh).1).trans hh, F, hs, hD⟩, hf⟩
theorem MP.look {w : World} {b n : Nat} {f : Int → Int} (h : MP w b n f) {i : Int} (h0 : 0 ≤ i) (h1 : i ≤ 1048576) : (Instr.lookup 69 (.map (some b)) (.int .i64 i) false).run Try.prog w = .ok (.int .i64 (f i)) w := by
  obtain ⟨D, hD, hf⟩ := h
  obtain ⟨c, hrun, hat, _⟩ := hD.lookup_int mpKey Try.underlying69 Try.underlying3 (mpZero w) (Maps.keyOf_int_mk Try.underlying3 (wf_i64 (a := i) (by omega) (by omega)))
  rw [hf i h0 h1] at hat
  injection hat with hat
  injection hat with _ hat
  rw [hrun, hat]
theorem MP.put {w : World} {b n : Nat} {f : Int → Int} (h : MP w b n f) (hn : n < 1000000) {i v : Int} (h0 : 0 ≤ i) (h1 : i ≤ 1048576) (hv : (Lit.int .i64 v).wf = true) :
    ∃ w', (Instr.mapUpdate 69 (.map (some b)) (.int .i64 i) (.int .i64 v)).run Try.prog w = .ok () w' ∧ MP w' b (n + 1) (fun j => if j = i then v else f j) ∧ w.grownBy w' (some b) := by
  obtain ⟨D, hD, hf⟩ := h
  have hk := Maps.keyOf_int_mk Try.underlying3 (wf_i64 (a := i) (by omega) (by omega))
  obtain ⟨w', hrun, hown, hg⟩ := hD.update mpKey Try.underlying69 (by unfold maxLen; omega) hk (plainElem_int Try.underlying3 hv)
  refine ⟨w', hrun, ⟨_, hown, fun j j0 j1 => ?_⟩, hg⟩
  by_cases e : j = i
  · subst e
    dsimp only
    rw [if_pos rfl]
    exact Maps.atKey_put_same hD.isMap (mpKey.key hk) _ _
  · dsimp only
    rw [if_neg e]
    exact (Maps.atKey_put_other (fun h => e (by injection h)) _ _).trans (hf j j0 j1)
end Go.Proofs.Ytgcbfiamhpfkhaa

/- Prices of the program. -/
namespace Go.Proofs.Ytgcbfiamhpfkhaa
open Go.RowKit
set_option linter.unusedVariables false
set_option maxRecDepth 100000

theorem wcTo_congr (b : Int) (cs ps : List Int) (f : Int → Int) (h : ∀ p ∈ ps, f p = cs.getD p.toNat 0) : ∀ k, (ps.take k).foldl (fun s p => wrap64 (s + f p)) b = wcTo b cs ps k := by
  intro k
  unfold wcTo
  have h' : ∀ p ∈ ps.take k, f p = cs.getD p.toNat 0 := fun p hp => h p (List.mem_of_mem_take hp)
  clear h
  generalize ps.take k = l at *
  induction l generalizing b with
  | nil => rfl
  | cons p l ih => rw [List.foldl_cons, List.foldl_cons, h' p (by simp)]; exact ih _ fun q hq => h' q (by simp [hq])
set_option maxHeartbeats 4000000 in
theorem costWith_any (L B b m n : Nat) (f : Int → Int) (cs : List Int) (r : Rt) (x : Ti) (w : World) (hr : RtOk w L B r x) (hB : B ≤ w.heap.size) (hp2 : x.ps.length ≤ 2) (hps : ∀ p ∈ x.ps, 0 ≤ p ∧ p < (n : Int)) (hn : n ≤ 24) (hm : MP w b m f) (hf : ∀ k : Nat, k < n → f (k : Int) = cs.getD k 0) :
    Calls Try.prog 63 #[.agg #[.int .i64 r.num, r.p, r.q, .int .i64 r.c], .map (some b)] w fun e w' => e = .returned (.int .i64 (wcT cs x)) ∧ Below w.heap.size w w' := by
  obtain ⟨PA, pc, QA, qc, rfl, hp, hq⟩ := hr.form
  have hR : Hid (wcT cs x = wcTo x.c cs x.ps x.ps.length) := rfl
  have hM := Lib.hid hm
  have hP := Lib.hid hp
  have hPs := Lib.hid hps
  have hF := Lib.hid hf
  clear hr hp hq hm hps hf
  generalize wcT cs x = R at *
  obtain ⟨xn, ps, ins, xc⟩ := x
  dsimp only at hR hP hPs hp2 ⊢
  go_enter Try.func63, Try.ntmps63
  have ba := (Below.refl w.heap.size w).alloc (Nat.le_refl _) (.cells #[.int .i64 xn, .slice PA ps.length pc, .slice QA ins.length qc, .int .i64 xc] 77)
  have hM1 := Lib.hid (hM.out.next ba)
  have hP1 := Lib.hid ((hP.out.below ba hB).rs)
  have hba := Lib.hid ba
  clear ba
  go_wp2_with (fail)
  generalize w.alloc (.cells #[.int .i64 xn, .slice PA ps.length pc, .slice QA ins.length qc, .int .i64 xc] 77) = W1 at *
  go_loop [5, 13] (fun cq q => ∃ t : Nat, t ≤ ps.length ∧ q = .int .i64 t ∧ cq = .int .i64 (wcTo xc cs ps t)) (fun _ q => ps.length - (intOf q).toNat)
  case atStart => exact ⟨0, Nat.zero_le _, rfl, rfl⟩
  case round =>
    obtain ⟨t, ht, rfl, rfl⟩ := hrel
    by_cases hltt : t < ps.length
    · obtain ⟨pb, po, rfl, _, hcc⟩ := hP1.out (by omega)
      have y1 := hcc t hltt
      have hpt := hPs.out ps[t] (List.getElem_mem _)
      have hS := Lib.hid (wcTo_succ xc cs hltt)
      clear hcc
      generalize ps[t] = pp at *
      obtain ⟨pn, rfl⟩ := Int.eq_ofNat_of_zero_le hpt.1
      have hl := hM1.out.look (i := (pn : Int)) (by omega) (by omega)
      rw [hF.out pn (by omega)] at hl
      rw [Int.toNat_natCast] at hS
      generalize cs.getD pn 0 = cp at *
      generalize wcTo xc cs ps t = wt at *
      go_wp2
      go_round
      case rel => exact ⟨t + 1, by omega, by go_num, by rw [hS.out]⟩
      case measure => simp [intOf]; omega
    · obtain rfl : t = ps.length := by omega
      generalize wcTo xc cs ps ps.length = wt at *
      go_wp2
      go_ret
      exact ⟨by rw [hR.out]; rfl, hba.out⟩

theorem wcTo_rng {b : Int} (cs ps : List Int) (h0 : 0 ≤ b) (h1 : b ≤ 4) : ∀ k, k ≤ ps.length → -9223372036854775808 ≤ wcTo b cs ps k ∧ wcTo b cs ps k ≤ 9223372036854775807
  | 0, _ => by rw [wcTo_zero]; omega
  | k + 1, h => by rw [wcTo_succ b cs (by omega : k < ps.length)]; unfold wrap64; omega
theorem wcT_wf (cs : List Int) {x : Ti} (h0 : 0 ≤ x.c) (h1 : x.c ≤ 4) : (Lit.int .i64 (wcT cs x)).wf = true := by
  have := wcTo_rng cs x.ps h0 h1 _ (Nat.le_refl _)
  exact wf_i64 this.1 this.2
theorem tsN_cb {es : List Nd} {k : Nat} (hk : k < es.length) : ∀ x ∈ tsN es k, 0 ≤ x.c ∧ x.c ≤ 4 := by
  intro x hx
  obtain ⟨n, _, _, hc, _⟩ := tsN_c hk hx
  rw [hc]; exact ctN_bd _ _
set_option maxHeartbeats 8000000 in
theorem leastCosts_any (L B : Nat) (A : Option Addr) (c : Nat) (es : List Nd) (w : World) (ht : treeR es = true) (hes : NS w L B A es) (hB : B ≤ w.heap.size) :
    Calls Try.prog 65 #[.slice A es.length c] w (fun e w' => ∃ b m f, e = .returned (.map (some b)) ∧ MP w' b m f ∧ (∀ k : Nat, k < es.length → f (k : Int) = (prTo es es.length).getD k 0) ∧ Below w.heap.size w w') := by
  have hg : good es = true := by unfold treeR at ht; simp only [Bool.and_eq_true] at ht; exact ht.1
  obtain ⟨hl1, hl24, hok⟩ := good_len hg
  have H2 := Lib.hid fun (k : Nat) (hk : k < es.length) (W : World) (hW : Below w.heap.size w W) => (show Calls Try.prog 62 #[.slice A es.length c, .int .i64 (k : Int)] W (TilesAre W (tsN es k)) from by rw [tsN_eq hk]; exact tilesOf_w L B A c es k hk W (hes.below hW hB) (Nat.le_trans hB hW.size) hl24 hok)
  have hPs := Lib.hid fun (k : Nat) (hk : k < es.length) => tsN_ps hok hk
  have hP2 := Lib.hid fun (k : Nat) => @tsN_ps2 es k
  have hCs := Lib.hid fun (k : Nat) (hk : k < es.length) => tsN_cb hk
  have hLn := Lib.hid fun (k : Nat) => (show (tsN es k).length ≤ 13 from tilesL_len _ _)
  have hSc := Lib.hid (prTo_next es)
  have hCl := Lib.hid (prTo_len es)
  have h00 := Lib.hid (prTo_zero es)
  clear ht hg hes hB hok
  generalize tsN es = TS at *
  generalize prTo es = CC at *
  generalize es.length = n at *
  have hmk := fun w => run_makeMap (P := Try.prog) 69 w
  have hM0 := Lib.hid (MP.made w)
  have b1 := Lib.hid ((Below.refl w.heap.size w).alloc (Nat.le_refl _) (.map #[] 0))
  go_enter Try.func65, Try.ntmps65
  go_wp2_with (fail)
  obtain ⟨b, hb0⟩ : ∃ b, b = w.heap.size := ⟨_, rfl⟩
  rw [← hb0]
  rw [← hb0] at hM0
  have hgw := Lib.hid (show w.heap.size ≤ b by omega)
  clear hb0 hmk
  generalize w.alloc (.map #[] 0) = W1 at *
  go_loopw [11] (fun q wr => ∃ k : Nat, k ≤ n ∧ q = .int .i64 k ∧ (∃ mm f, mm ≤ 14 * k ∧ MP wr b mm f ∧ ∀ i : Nat, i < n → f (i : Int) = (CC k).getD i 0) ∧ Below w.heap.size w wr) (fun q _ => n - (intOf q).toNat)
  case atStart => exact ⟨0, Nat.zero_le _, rfl, ⟨0, _, Nat.zero_le _, hM0.out, fun i hi => by rw [h00.out]; simp [zeros, hi]⟩, b1.out⟩
  case round =>
    obtain ⟨k, hk, rfl, ⟨mm, f, hmm, hmp, hff⟩, hbel⟩ := hrel
    have hMP := Lib.hid hmp
    have hFF := Lib.hid hff
    have hBL := Lib.hid hbel
    have hgl := hmp.lt
    clear hmp hbel hff
    by_cases hlt : k < n
    · obtain ⟨wo, hwo⟩ : ∃ wo : World, wo = wr := ⟨_, rfl⟩
      rw [← hwo] at hMP hBL hgl ⊢
      clear hwo
      have hki : (k : Int) < (n : Int) := by omega
      have hC := Lib.hid (H2.out k hlt)
      have hSk := Lib.hid (hSc.out k)
      have hps := Lib.hid (hPs.out k hlt)
      have hps2 := Lib.hid (hP2.out k)
      have hcs := Lib.hid (hCs.out k hlt)
      have hlk := hLn.out k
      have hcl := Lib.hid (hCl.out k)
      generalize TS k = ts at *
      generalize hck : CC (k + 1) = ck' at *
      have hck2 := Lib.hid hck
      clear hck
      generalize CC k = cs at *
      go_wp2_with (fail)
      refine (hC.out _ hBL.out).mono ?_
      rintro e w2 ⟨TA, tc, rs, rfl, hrs, hall, hb2⟩
      have hRS := Lib.hid hrs
      have hAL := Lib.hid hall
      have hB2 := Lib.hid (hBL.out.trans (hb2.mono hBL.out.size))
      have hM2 := Lib.hid (hMP.out.next hb2)
      have hg2 := Nat.lt_of_lt_of_le hgl hb2.size
      clear hrs hall hb2
      go_wp2_with (fail)
      go_loopw [18] (fun q wr => ∃ j : Nat, j ≤ ts.length ∧ q = .int .i64 j ∧ (∃ mm f, mm ≤ 14 * k + j ∧ MP wr b mm f ∧ ∀ i : Nat, i < n → f (i : Int) = (pcTo k cs ts j).getD i 0) ∧ Chg b (b + 1) w2 wr) (fun q _ => ts.length - (intOf q).toNat)
      case atStart => exact ⟨0, Nat.zero_le _, rfl, ⟨mm, f, hmm, hM2.out, hFF.out⟩, Chg.refl _ _ _⟩
      case round =>
        obtain ⟨j, hj, rfl, ⟨mj, fj, hmj, hmp, hff⟩, hch⟩ := hrel
        have hMJ := Lib.hid hmp
        have hFJ := Lib.hid hff
        have hCJ := Lib.hid hch
        have hgr := hmp.lt
        clear hmp hch hff
        by_cases hltj : j < ts.length
        · have hjr : j < rs.length := by rw [hAL.out.1]; exact hltj
          have hok4 := (hAL.out.2 j hjr hltj).chg hCJ.out (.inr hgl)
          obtain ⟨tb, to', rfl, ⟨_, htb⟩, hcc⟩ := (hRS.out.chg hCJ.out (Nat.le_refl _) (.inr hgl)) (by omega)
          have x1 := hcc j hjr 0 _ rfl
          have x2 := hcc j hjr 1 _ rfl
          have x3 := hcc j hjr 2 _ rfl
          have x4 := hcc j hjr 3 _ rfl
          simp only [Nat.add_zero] at x1
          have hpj := hps.out ts[j] (List.getElem_mem _)
          have hpl := hps2.out ts[j] (List.getElem_mem _)
          have hcb := hcs.out ts[j] (List.getElem_mem _)
          have hwf := Lib.hid (wcT_wf (pcTo k cs ts j) hcb.1 hcb.2)
          have hji : (j : Int) < (ts.length : Int) := by omega
          have hjh := Lib.hid hltj
          have hcj := Lib.hid (pcTo_len k cs ts j)
          have hSj := Lib.hid (pcTo_succ k cs hltj)
          have hst1 := Lib.hid (pcStep_set (i := k) (j := j) (c := pcTo k cs ts j) (x := ts[j]))
          have hst2 := Lib.hid (pcStep_old (i := k) (j := j) (c := pcTo k cs ts j) (x := ts[j]))
          have hw2r := hCJ.out.size
          generalize rs[j] = r at *
          obtain ⟨PA, pc, QA, qc, rfl, hp, hq⟩ := hok4.form
          have hbx := (Below.refl wr.heap.size wr).alloc (Nat.le_refl _) (.cells #[.int .i64 (ts[j]).num, .slice PA (ts[j]).ps.length pc, .slice QA (ts[j]).ins.length qc, .int .i64 (ts[j]).c] 77)
          have hCW := Lib.hid (costWith_any _ _ b mj n fj (pcTo k cs ts j) _ ts[j] _ (hok4.below hbx hCJ.out.size) (Nat.le_trans hCJ.out.size hbx.size) hpl (fun p hp => ⟨(hpj p hp).1, by have := (hpj p hp).2; omega⟩) hl24 (hMJ.out.next hbx) hFJ.out)
          have hMx := Lib.hid (hMJ.out.next hbx)
          have hCx := Lib.hid (hCJ.out.trans (Chg.ofBelow hbx))
          dsimp only at x1 x2 x3 x4 hCW
          clear hcc hok4 hp hq hbx hpj hpl hcb
          generalize wcT (pcTo k cs ts j) ts[j] = wc at *
          generalize hcn : pcTo k cs ts (j + 1) = cn' at *
          have hcn2 := Lib.hid hcn
          clear hcn
          generalize pcTo k cs ts j = cj at *
          generalize ts[j] = x at *
          obtain ⟨xn, ps, ins, xc⟩ := x
          dsimp only at x1 x2 x3 x4 hCW hCx hMx
          go_wp2_with (fail)
          refine hCW.out.mono ?_
          rintro e w3 ⟨rfl, hb3⟩
          have hM3 := hMx.out.next hb3
          have hlk2 := hM3.look (i := (k : Int)) (by omega) (by omega)
          rw [hFJ.out k hlt] at hlk2
          obtain ⟨w4, hrun, hm4, hg4⟩ := hM3.put (by omega : mj < 1000000) (i := (k : Int)) (by omega) (by omega) hwf.out
          have hM3h := Lib.hid hM3
          have hM4 := Lib.hid hm4
          have hC3 := Lib.hid (hCx.out.trans (Chg.ofBelow hb3))
          have hC4 := Lib.hid (hC3.out.trans (Chg.ofGrown hg4 (fun q e => by cases e; exact ⟨Nat.le_refl _, Nat.lt_succ_self _⟩)))
          have hcl2 : k < cj.length := by rw [hcj.out, hcl.out]; exact hlt
          have hF4 : Hid (∀ i : Nat, i < n → (fun q : Int => if q = (k : Int) then wc else fj q) (i : Int) = (cj.set k wc).getD i 0) := fun i hi => by
            dsimp only
            rw [getDI_set _ _ _ hcl2]
            by_cases e : k = i
            · subst e; rw [if_pos rfl, if_pos rfl]
            · rw [if_neg (by omega), if_neg e]; exact hFJ.out i hi
          clear hM3 hm4 hg4 hb3 hCW hMx hCx hcl2 x1 x2 x3 x4 hwf
          by_cases hj0 : j = 0
          · subst hj0
            have hs := Lib.hid (hst1.out (.inl rfl))
            clear hst1 hst2
            generalize cj.getD k 0 = old at *
            go_wp2
            have := hjh.out
            exact ⟨⟨1, by omega, by simp, ⟨mj + 1, _, by omega, hM4.out, by rw [hcn2.out, hSj.out, hs.out]; exact hF4.out⟩, hC4.out⟩, by simp [intOf]; omega⟩
          · have hji0 : ¬ (j : Int) = 0 := by omega
            have hjb : ((j : Int) == 0) = false := by simpa using hji0
            by_cases hq : wc < cj.getD k 0
            · have hs := Lib.hid (hst1.out (.inr hq))
              clear hst1 hst2
              generalize cj.getD k 0 = old at *
              go_wp2
              have := hjh.out
              exact ⟨⟨j + 1, hjh.out, by go_num, ⟨mj + 1, _, by omega, hM4.out, by rw [hcn2.out, hSj.out, hs.out]; exact hF4.out⟩, hC4.out⟩, by simp [intOf]; omega⟩
            · have hs := Lib.hid (hst2.out (fun h => h.elim hj0 hq))
              clear hst1 hst2
              generalize cj.getD k 0 = old at *
              go_wp2
              have := hjh.out
              exact ⟨⟨j + 1, hjh.out, by go_num, ⟨mj, _, by omega, hM3h.out, by rw [hcn2.out, hSj.out, hs.out]; exact hFJ.out⟩, hC3.out⟩, by simp [intOf]; omega⟩
        · obtain rfl : j = ts.length := by omega
          have hB3 := Lib.hid (below_chg hB2.out hCJ.out hB2.out.size hgw.out)
          go_wp2
          go_roundw
          case rel => exact ⟨k + 1, by omega, by go_num, ⟨mj, fj, by omega, hMJ.out, by rw [hck2.out, hSk.out]; exact hFJ.out⟩, hB3.out⟩
          case measure => simp [intOf]; omega
    · obtain rfl : k = n := by omega
      go_wp2
      go_ret
      exact ⟨b, mm, f, rfl, hMP.out, hFF.out, hBL.out⟩
end Go.Proofs.Ytgcbfiamhpfkhaa

/- How the program compares two tiles. -/
namespace Go.Proofs.Ytgcbfiamhpfkhaa
open Go.RowKit
set_option linter.unusedVariables false
set_option maxRecDepth 100000

def cmpR (a b : Int) : Int := if a < b then -1 else if b < a then 1 else 0
theorem cmpR_neg (a b : Int) : cmpR a b < 0 ↔ a < b := by unfold cmpR; (repeat' split) <;> omega
theorem isNaN_any (a : Int) (w : World) : Calls Try.prog 124 #[.int .i64 a] w fun e w' => e = .returned (.bool false) ∧ w = w' := by
  go_enter Try.func124, Try.ntmps124
  go_wp2
  go_ret
  exact ⟨ret_bool (by simp), rfl⟩
theorem cmpInt_any (a b : Int) (w : World) : Calls Try.prog 68 #[.int .i64 a, .int .i64 b] w fun e w' => e = .returned (.int .i64 (cmpR a b)) ∧ w = w' := by
  by_cases h1 : a < b
  · have hR : Hid (cmpR a b = -1) := if_pos h1
    go_enter Try.func68, Try.ntmps68
    go_wp2_with (go_at_call 124; (with_reducible refine (isNaN_any _ _).mono ?_); rintro e w' ⟨rfl, rfl⟩)
    go_ret
    exact ⟨ret_int hR.out.symm, rfl⟩
  · by_cases h2 : b < a
    · have hR : Hid (cmpR a b = 1) := by unfold Hid cmpR; rw [if_neg h1, if_pos h2]
      go_enter Try.func68, Try.ntmps68
      go_wp2_with (go_at_call 124; (with_reducible refine (isNaN_any _ _).mono ?_); rintro e w' ⟨rfl, rfl⟩)
      go_ret
      exact ⟨ret_int hR.out.symm, rfl⟩
    · have hR : Hid (cmpR a b = 0) := by unfold Hid cmpR; rw [if_neg h1, if_neg h2]
      go_enter Try.func68, Try.ntmps68
      go_wp2_with (go_at_call 124; (with_reducible refine (isNaN_any _ _).mono ?_); rintro e w' ⟨rfl, rfl⟩)
      go_ret
      exact ⟨ret_int hR.out.symm, rfl⟩

/-- Two tiles in boxes beside each other, and a map's box. -/
theorem nine_next {w w' : World} {p0 p1 p2 p3 q0 q1 q2 q3 r : Addr} {a0 a1 a2 a3 b0 b1 b2 b3 v : Value} (h : w.cell? p0 = some a0 ∧ w.cell? p1 = some a1 ∧ w.cell? p2 = some a2 ∧ w.cell? p3 = some a3 ∧ w.cell? q0 = some b0 ∧ w.cell? q1 = some b1 ∧ w.cell? q2 = some b2 ∧ w.cell? q3 = some b3 ∧ w.cell? r = some v) (hb : Below w.heap.size w w') :
    w'.cell? p0 = some a0 ∧ w'.cell? p1 = some a1 ∧ w'.cell? p2 = some a2 ∧ w'.cell? p3 = some a3 ∧ w'.cell? q0 = some b0 ∧ w'.cell? q1 = some b1 ∧ w'.cell? q2 = some b2 ∧ w'.cell? q3 = some b3 ∧ w'.cell? r = some v :=
  have k : ∀ {p : Addr} {u : Value}, w.cell? p = some u → w'.cell? p = some u := fun h => (hb.cell (World.block_lt_of_cell? _ _ h)).trans h
  ⟨k h.1, k h.2.1, k h.2.2.1, k h.2.2.2.1, k h.2.2.2.2.1, k h.2.2.2.2.2.1, k h.2.2.2.2.2.2.1, k h.2.2.2.2.2.2.2.1, k h.2.2.2.2.2.2.2.2⟩

set_option maxHeartbeats 8000000 in
theorem bestLess_any (L B cb b m n : Nat) (f : Int → Int) (P : List Int) (rx ry : Rt) (x y : Ti) (w : World) (hrx : RtOk w L B rx x) (hry : RtOk w L B ry y) (hB : B ≤ w.heap.size) (hx2 : x.ps.length ≤ 2) (hxp : ∀ p ∈ x.ps, 0 ≤ p ∧ p < (n : Int)) (hy2 : y.ps.length ≤ 2) (hyp : ∀ p ∈ y.ps, 0 ≤ p ∧ p < (n : Int)) (hn : n ≤ 24) (hm : MP w b m f) (hf : ∀ k : Nat, k < n → f (k : Int) = P.getD k 0) (hcb : BX w cb 69 (.map (some b))) :
    Calls Try.prog 67 #[.agg #[.int .i64 rx.num, rx.p, rx.q, .int .i64 rx.c], .agg #[.int .i64 ry.num, ry.p, ry.q, .int .i64 ry.c], .pointer (some ⟨cb, 0, none⟩)] w fun e w' => e = .returned (.int .i64 (cmpR (wcT P x) (wcT P y))) ∧ Below w.heap.size w w' := by
  obtain ⟨xn, xp, xq, xc⟩ := rx
  obtain ⟨yn, yp, yq, yc⟩ := ry
  dsimp only
  obtain ⟨W, hW⟩ : ∃ W, W = (w.alloc (.cells #[.int .i64 xn, xp, xq, .int .i64 xc] 77)).alloc (.cells #[.int .i64 yn, yp, yq, .int .i64 yc] 77) := ⟨_, rfl⟩
  have bb : Below w.heap.size w W := by rw [hW]; exact ((Below.refl _ w).alloc (Nat.le_refl _) _).alloc (by simp) _
  have nx : CB 77 W w.heap.size [.int .i64 xn, xp, xq, .int .i64 xc] := by
    rw [hW]; exact CB.below (heap_alloc_new w _) ((Below.refl _ _).alloc (Nat.le_refl _) _) (by simp)
  have ny : CB 77 W (w.heap.size + 1) [.int .i64 yn, yp, yq, .int .i64 yc] := by
    rw [hW]; have h := heap_alloc_new (w.alloc (.cells #[.int .i64 xn, xp, xq, .int .i64 xc] 77)) (.cells #[.int .i64 yn, yp, yq, .int .i64 yc] 77); rw [World.size_alloc] at h; exact h
  have HX := Lib.hid fun (V : World) (hV : Below w.heap.size w V) => costWith_any L B b m n f P _ x V (hrx.below hV hB) (Nat.le_trans hB hV.size) hx2 hxp hn (hm.next hV) hf
  have HY := Lib.hid fun (V : World) (hV : Below w.heap.size w V) => costWith_any L B b m n f P _ y V (hry.below hV hB) (Nat.le_trans hB hV.size) hy2 hyp hn (hm.next hV) hf
  dsimp only at HX HY
  have c8 := (hcb.next bb).cell
  have c0 := nx.cell 0
  have c1 := nx.cell 1
  have c2 := nx.cell 2
  have c3 := nx.cell 3
  have c4 := ny.cell 0
  have c5 := ny.cell 1
  have c6 := ny.cell 2
  have c7 := ny.cell 3
  simp only [List.getElem?_cons_zero, List.getElem?_cons_succ] at c0 c1 c2 c3 c4 c5 c6 c7
  have bd := Lib.hid bb.drew
  have hWh := Lib.hid hW.symm
  clear hrx hry hB hx2 hxp hy2 hyp hm hf hcb nx ny bb hW
  generalize wcT P x = a at *
  generalize wcT P y = d at *
  go_enter Try.func67, Try.ntmps67
  go_wp2_with (fail)
  rw [hWh.out]
  clear hWh
  go_region_held3 (fun w' => w'.cell? ⟨w.heap.size, 0, none⟩ = some (.int .i64 xn) ∧ w'.cell? ⟨w.heap.size, 1, none⟩ = some xp ∧ w'.cell? ⟨w.heap.size, 2, none⟩ = some xq ∧ w'.cell? ⟨w.heap.size, 3, none⟩ = some (.int .i64 xc) ∧ w'.cell? ⟨w.heap.size + 1, 0, none⟩ = some (.int .i64 yn) ∧ w'.cell? ⟨w.heap.size + 1, 1, none⟩ = some yp ∧ w'.cell? ⟨w.heap.size + 1, 2, none⟩ = some yq ∧ w'.cell? ⟨w.heap.size + 1, 3, none⟩ = some (.int .i64 yc) ∧ w'.cell? ⟨cb, 0, none⟩ = some (.map (some b)))
    (first
      | exact ⟨c0, c1, c2, c3, c4, c5, c6, c7, c8⟩
      | assumption
      | exact nine_next (by assumption) (by assumption)
      | exact nine_next ⟨c0, c1, c2, c3, c4, c5, c6, c7, c8⟩ h3a
      | exact nine_next ⟨c0, c1, c2, c3, c4, c5, c6, c7, c8⟩ h3b
      | go_keep)
    ((first
      | (go_at_call 63; (with_reducible refine (HX.out _ hB3b.out).mono ?_); rintro e w3a ⟨rfl, h3a⟩; have hB3a := Lib.hid (hB3b.out.trans (h3a.mono hB3b.out.size)))
      | (go_at_call 63; (with_reducible refine (HX.out _ bd.out).mono ?_); rintro e w3a ⟨rfl, h3a⟩; have hB3a := Lib.hid (bd.out.trans (h3a.mono bd.out.size)))
      | (go_at_call 63; (with_reducible refine (HY.out _ hB3a.out).mono ?_); rintro e w3b ⟨rfl, h3b⟩; have hB3b := Lib.hid (hB3a.out.trans (h3b.mono hB3a.out.size)))
      | (go_at_call 63; (with_reducible refine (HY.out _ bd.out).mono ?_); rintro e w3b ⟨rfl, h3b⟩; have hB3b := Lib.hid (bd.out.trans (h3b.mono bd.out.size)))
      | (go_at_call 68; (with_reducible refine (cmpInt_any _ _ _).mono ?_); rintro e w3c ⟨rfl, rfl⟩)))
  all_goals
    first
    | (go_wp2; go_ret; exact ⟨rfl, hB3b.out⟩)
    | (go_wp2; go_ret; exact ⟨rfl, hB3a.out⟩)
end Go.Proofs.Ytgcbfiamhpfkhaa

/- How the program compares two tiles for the largest cover. -/
namespace Go.Proofs.Ytgcbfiamhpfkhaa
open Go.RowKit
set_option linter.unusedVariables false
set_option maxRecDepth 100000

def orR (a b : Int) : Int := if a = 0 then b else a
theorem orR_neg {x y : Ti} (hx : 0 ≤ x.c ∧ x.c ≤ 4) (hy : 0 ≤ y.c ∧ y.c ≤ 4) : orR (cmpR (y.ins.length : Int) (x.ins.length : Int)) (cmpR x.c y.c) < 0 ↔ kG x < kG y := by
  unfold orR cmpR kG; (repeat' split) <;> omega
set_option maxHeartbeats 2000000 in
theorem cmpOr_any (g : Nat) (a b : Int) (w : World) (hi : IB w g 3 [a, b]) : Calls Try.prog 75 #[.slice (some ⟨g, 0, none⟩) 2 2] w fun e w' => e = .returned (.int .i64 (orR a b)) ∧ w = w' := by
  have c0 := hi.cell 0 (by simp)
  have c1 := hi.cell 1 (by simp)
  simp only [List.getElem_cons_zero, List.getElem_cons_succ] at c0 c1
  have hIB := Lib.hid hi
  clear hi
  by_cases ha : a = 0
  · subst ha
    have hR : Hid (orR 0 b = b) := if_pos rfl
    by_cases hb : b = 0
    · subst hb
      go_enter Try.func75, Try.ntmps75
      go_wp2
      go_loop [8] (fun q => ∃ k : Nat, k ≤ 2 ∧ q = .int .i64 k) (fun q => 2 - (intOf q).toNat)
      case atStart => exact ⟨0, Nat.zero_le _, rfl⟩
      case round =>
        obtain ⟨k, hk, rfl⟩ := hrel
        rcases (show k = 0 ∨ k = 1 ∨ k = 2 by omega) with rfl | rfl | rfl
        · go_wp2
          go_round
          case rel => exact ⟨1, by omega, rfl⟩
          case measure => simp [intOf]
        · go_wp2
          go_round
          case rel => exact ⟨2, by omega, rfl⟩
          case measure => simp [intOf]
        · go_wp2
          go_ret
          exact ⟨ret_int hR.out.symm, rfl⟩
    · have hbb : (b != 0) = true := by simpa using hb
      go_enter Try.func75, Try.ntmps75
      go_wp2
      go_loop [8] (fun q => ∃ k : Nat, k ≤ 1 ∧ q = .int .i64 k) (fun q => 2 - (intOf q).toNat)
      case atStart => exact ⟨0, Nat.zero_le _, rfl⟩
      case round =>
        obtain ⟨k, hk, rfl⟩ := hrel
        rcases (show k = 0 ∨ k = 1 by omega) with rfl | rfl
        · go_wp2
          go_round
          case rel => exact ⟨1, by omega, rfl⟩
          case measure => simp [intOf]
        · go_wp2
          go_ret
          exact ⟨ret_int hR.out.symm, rfl⟩
  · have hR : Hid (orR a b = a) := if_neg ha
    have hbb : (a != 0) = true := by simpa using ha
    go_enter Try.func75, Try.ntmps75
    go_wp2
    go_loop [8] (fun q => q = .int .i64 0) (fun q => 0)
    case atStart => rfl
    case round =>
      subst hrel
      go_wp2
      go_ret
      exact ⟨ret_int hR.out.symm, rfl⟩

theorem fourG_next {w w' : World} {p0 p1 p2 p3 : Addr} {a0 a1 a2 a3 : Value} (h : w.cell? p0 = some a0 ∧ w.cell? p1 = some a1 ∧ w.cell? p2 = some a2 ∧ w.cell? p3 = some a3) (hb : Below w.heap.size w w') :
    w'.cell? p0 = some a0 ∧ w'.cell? p1 = some a1 ∧ w'.cell? p2 = some a2 ∧ w'.cell? p3 = some a3 :=
  have k : ∀ {p : Addr} {u : Value}, w.cell? p = some u → w'.cell? p = some u := fun h => (hb.cell (World.block_lt_of_cell? _ _ h)).trans h
  ⟨k h.1, k h.2.1, k h.2.2.1, k h.2.2.2⟩
set_option maxHeartbeats 8000000 in
theorem largeLess_any (L B : Nat) (rx ry : Rt) (x y : Ti) (w : World) (hrx : RtOk w L B rx x) (hry : RtOk w L B ry y) (hB : B ≤ w.heap.size) (hcx : (0 ≤ x.c ∧ x.c ≤ 4) ∧ x.ins.length ≤ 2) (hcy : (0 ≤ y.c ∧ y.c ≤ 4) ∧ y.ins.length ≤ 2) :
    Calls Try.prog 74 #[.agg #[.int .i64 rx.num, rx.p, rx.q, .int .i64 rx.c], .agg #[.int .i64 ry.num, ry.p, ry.q, .int .i64 ry.c]] w fun e w' => ∃ d, e = .returned (.int .i64 d) ∧ (d < 0 ↔ kG x < kG y) ∧ Below w.heap.size w w' := by
  have hK := Lib.hid (orR_neg hcx.1 hcy.1)
  have hlx := hcx.2
  have hly := hcy.2
  obtain ⟨PA, pc, QA, qc, rfl, _, _⟩ := hrx.form
  obtain ⟨PB, pd, QB, qd, rfl, _, _⟩ := hry.form
  obtain ⟨xn, xps, xins, xc⟩ := x
  obtain ⟨yn, yps, yins, yc⟩ := y
  dsimp only at hK hlx hly ⊢
  obtain ⟨W, hW⟩ : ∃ W, W = (w.alloc (.cells #[.int .i64 xn, .slice PA xps.length pc, .slice QA xins.length qc, .int .i64 xc] 77)).alloc (.cells #[.int .i64 yn, .slice PB yps.length pd, .slice QB yins.length qd, .int .i64 yc] 77) := ⟨_, rfl⟩
  have bb : Below w.heap.size w W := by rw [hW]; exact ((Below.refl _ w).alloc (Nat.le_refl _) _).alloc (by simp) _
  have nx : CB 77 W w.heap.size [.int .i64 xn, .slice PA xps.length pc, .slice QA xins.length qc, .int .i64 xc] := by
    rw [hW]; exact CB.below (heap_alloc_new w _) ((Below.refl _ _).alloc (Nat.le_refl _) _) (by simp)
  have ny : CB 77 W (w.heap.size + 1) [.int .i64 yn, .slice PB yps.length pd, .slice QB yins.length qd, .int .i64 yc] := by
    rw [hW]; have h := heap_alloc_new (w.alloc (.cells #[.int .i64 xn, .slice PA xps.length pc, .slice QA xins.length qc, .int .i64 xc] 77)) (.cells #[.int .i64 yn, .slice PB yps.length pd, .slice QB yins.length qd, .int .i64 yc] 77); rw [World.size_alloc] at h; exact h
  have c0 := nx.cell 2
  have c1 := nx.cell 3
  have c2 := ny.cell 2
  have c3 := ny.cell 3
  simp only [List.getElem?_cons_zero, List.getElem?_cons_succ] at c0 c1 c2 c3
  have bd := Lib.hid bb
  have hWh := Lib.hid hW.symm
  clear hrx hry hB nx ny bb hW hcx hcy
  generalize xins.length = u at *
  generalize yins.length = v at *
  generalize kG ⟨xn, xps, xins, xc⟩ = kx at *
  generalize kG ⟨yn, yps, yins, yc⟩ = ky at *
  have hA := Lib.hid fun (V : World) => (Below.refl V.heap.size V).alloc (Nat.le_refl _) (.cells #[.int .i64 (cmpR (v : Int) (u : Int)), .int .i64 (cmpR xc yc)] 3)
  have hC1 := Lib.hid fun (V : World) => cmpInt_any (v : Int) (u : Int) V
  have hC2 := Lib.hid fun (V : World) => cmpInt_any xc yc V
  generalize cmpR (v : Int) (u : Int) = d1 at *
  generalize cmpR xc yc = d2 at *
  go_enter Try.func74, Try.ntmps74
  go_wp2_with (fail)
  rw [hWh.out]
  clear hWh
  go_region_held3 (fun w' => w'.cell? ⟨w.heap.size, 2, none⟩ = some (.slice QA u qc) ∧ w'.cell? ⟨w.heap.size, 3, none⟩ = some (.int .i64 xc) ∧ w'.cell? ⟨w.heap.size + 1, 2, none⟩ = some (.slice QB v qd) ∧ w'.cell? ⟨w.heap.size + 1, 3, none⟩ = some (.int .i64 yc))
    (first
      | exact ⟨c0, c1, c2, c3⟩
      | assumption
      | exact fourG_next ⟨c0, c1, c2, c3⟩ (hA.out _)
      | exact fourG_next (by assumption) (hA.out _)
      | go_keep)
    ((first
      | (go_at_call 68; (with_reducible refine (hC1.out _).mono ?_); rintro e w3a ⟨rfl, rfl⟩)
      | (go_at_call 68; (with_reducible refine (hC2.out _).mono ?_); rintro e w3b ⟨rfl, rfl⟩)
      | (go_at_call 75; (refine (cmpOr_any W.heap.size d1 d2 _ (show IB (W.alloc (.cells #[.int .i64 d1, .int .i64 d2] 3)).drew W.heap.size 3 [d1, d2] from heap_alloc_new W _)).mono ?_); rintro e w3c ⟨rfl, rfl⟩)))
  all_goals
    have hBf := Lib.hid (bd.out.trans ((hA.out W).mono bd.out.size))
    go_wp2
    go_ret
    first | exact ⟨_, rfl, hK.out, hBf.out⟩ | exact ⟨_, rfl, hK.out, hBf.out.drew⟩
end Go.Proofs.Ytgcbfiamhpfkhaa

/- slices.MinFunc over tiles. -/
namespace Go.Proofs.Ytgcbfiamhpfkhaa
open Go.RowKit
set_option linter.unusedVariables false
set_option maxRecDepth 100000

theorem TX.chgG {w w' : World} {g lo hi : Nat} {r : Rt} (h : TX w g r) (hc : Chg lo hi w w') (hd : g < lo) : TX w' g r := (hc.block g (CB.lt h) (.inl hd)).trans h
theorem eightG_next {w w' : World} {p0 p1 p2 p3 q0 q1 q2 q3 : Addr} {a0 a1 a2 a3 b0 b1 b2 b3 : Value} (h : w.cell? p0 = some a0 ∧ w.cell? p1 = some a1 ∧ w.cell? p2 = some a2 ∧ w.cell? p3 = some a3 ∧ w.cell? q0 = some b0 ∧ w.cell? q1 = some b1 ∧ w.cell? q2 = some b2 ∧ w.cell? q3 = some b3) (hb : Below w.heap.size w w') :
    w'.cell? p0 = some a0 ∧ w'.cell? p1 = some a1 ∧ w'.cell? p2 = some a2 ∧ w'.cell? p3 = some a3 ∧ w'.cell? q0 = some b0 ∧ w'.cell? q1 = some b1 ∧ w'.cell? q2 = some b2 ∧ w'.cell? q3 = some b3 :=
  have k : ∀ {p : Addr} {u : Value}, w.cell? p = some u → w'.cell? p = some u := fun h => (hb.cell (World.block_lt_of_cell? _ _ h)).trans h
  ⟨k h.1, k h.2.1, k h.2.2.1, k h.2.2.2.1, k h.2.2.2.2.1, k h.2.2.2.2.2.1, k h.2.2.2.2.2.2.1, k h.2.2.2.2.2.2.2⟩
set_option maxHeartbeats 8000000 in
theorem minFuncG_any (L B : Nat)  (A : Option Addr) (c : Nat) (rs : List Rt) (ts : List Ti) (w : World) (hl1 : 1 ≤ ts.length) (hl13 : ts.length ≤ 13) (hrs : RS Rt.enc 4 w L B A rs) (hall : AllOk w L B rs ts) (hB : B ≤ w.heap.size) (hcl : ∀ x ∈ ts, (0 ≤ x.c ∧ x.c ≤ 4) ∧ x.ins.length ≤ 2)  :
    Calls Try.prog 123 #[.slice A rs.length c, .func (.func 74) #[] #[]] w fun e w' => ∃ r : Rt, e = .returned (.agg #[.int .i64 r.num, r.p, r.q, .int .i64 r.c]) ∧ RtOk w' L B r (chK kG ts) ∧ Below w.heap.size w w' := by
  have hrl : rs.length = ts.length := hall.1
  have HF := Lib.hid fun (rx ry : Rt) (x y : Ti) (hx : x ∈ ts) (hy : y ∈ ts) (W : World) (hW : Below w.heap.size w W) (h1 : RtOk w L B rx x) (h2 : RtOk w L B ry y) => largeLess_any L B rx ry x y W (h1.below hW hB) (h2.below hW hB) (Nat.le_trans hB hW.size) (hcl x hx) (hcl y hy)
  have hRS := Lib.hid hrs
  have hAL := Lib.hid hall
  have hz1 := World.size_alloc w (.cells #[.int .i64 0, .slice none 0 0, .slice none 0 0, .int .i64 0] 77)
  have ba := (Below.refl w.heap.size w).alloc (Nat.le_refl _) (.cells #[.int .i64 0, .slice none 0 0, .slice none 0 0, .int .i64 0] 77)
  obtain ⟨tb, to', rfl, ⟨_, htb⟩, hcc⟩ := (hRS.out.below ba hB) (by omega)
  have x1 := hcc 0 (by omega) 0 _ rfl
  have x2 := hcc 0 (by omega) 1 _ rfl
  have x3 := hcc 0 (by omega) 2 _ rfl
  have x4 := hcc 0 (by omega) 3 _ rfl
  simp only [Nat.add_zero, Nat.zero_mul] at x1 x2 x3 x4
  have T0 := Lib.hid (TX.new (w := w) zeroRt rfl)
  have T1 := Lib.hid fun (r : Rt) => TX.new (w := w.alloc (.cells #[.int .i64 0, .slice none 0 0, .slice none 0 0, .int .i64 0] 77)) r hz1
  have b1 := Lib.hid fun (o : Obj) => ba.alloc ba.size o
  have hlr : (rs.length : Int) = (ts.length : Int) := by omega
  have hO0 := Lib.hid (hAL.out.2 0 (by omega) (by omega))
  have hr0 := Lib.hid (show ts[0]'(by omega) = minTo kG ts 0 from by rw [minTo_zero, getDT (by omega : 0 < ts.length)])
  clear hcc hrs hall
  generalize rs[0]'(by omega) = r0 at *
  generalize ts[0]'(by omega) = t0 at *
  obtain ⟨PA, pc, QA, qc, rfl, _, _⟩ := hO0.out.form
  obtain ⟨xn, ps, ins, xc⟩ := t0
  dsimp only at x1 x2 x3 x4 hO0
  have hgl : ¬ (rs.length : Int) < 1 := by omega
  have hg0 : (0 : Int) < (rs.length : Int) := by omega
  have T1' := Lib.hid (T1.out ⟨xn, .slice PA ps.length pc, .slice QA ins.length qc, xc⟩)
  have b1' := Lib.hid (b1.out (.cells #[.int .i64 xn, .slice PA ps.length pc, .slice QA ins.length qc, .int .i64 xc] 77))
  have T0' : Hid (TX ((w.alloc (.cells #[.int .i64 0, .slice none 0 0, .slice none 0 0, .int .i64 0] 77)).alloc (.cells #[.int .i64 xn, .slice PA ps.length pc, .slice QA ins.length qc, .int .i64 xc] 77)) w.heap.size zeroRt) := CB.below T0.out ((Below.refl _ (w.alloc (.cells #[.int .i64 0, .slice none 0 0, .slice none 0 0, .int .i64 0] 77))).alloc (Nat.le_refl _) (.cells #[.int .i64 xn, .slice PA ps.length pc, .slice QA ins.length qc, .int .i64 xc] 77)) (by rw [hz1]; exact Nat.lt_succ_self _)
  dsimp only at T1'
  clear T0 T1 b1 ba
  go_enter Try.func123, Try.ntmps123
  go_wp2_with (fail)
  generalize (w.alloc (.cells #[.int .i64 0, .slice none 0 0, .slice none 0 0, .int .i64 0] 77)).alloc (.cells #[.int .i64 xn, .slice PA ps.length pc, .slice QA ins.length qc, .int .i64 xc] 77) = W1 at *
  go_loopw [6] (fun u wr => ∃ j : Nat, 1 ≤ j ∧ j ≤ ts.length ∧ u = .int .i64 j ∧ TX wr w.heap.size zeroRt ∧ (∃ r : Rt, TX wr (w.heap.size + 1) r ∧ RtOk w L B r (minTo kG ts (j - 1))) ∧ Below w.heap.size w wr) (fun u _ => ts.length - (intOf u).toNat)
  case atStart => exact ⟨1, Nat.le_refl _, hl1, rfl, T0'.out, ⟨_, T1'.out, by rw [← hr0.out]; exact hO0.out⟩, b1'.out⟩
  case round =>
    obtain ⟨j, hj1, hj, rfl, hT0, ⟨r, hTr, hOr⟩, hbel⟩ := hrel
    have hBL := Lib.hid hbel
    have hTZ := Lib.hid hT0
    have hTR := Lib.hid hTr
    have hOR := Lib.hid hOr
    clear hbel hT0 hTr hOr
    by_cases hlt : j < ts.length
    · have hjr : j < rs.length := by omega
      obtain ⟨tb, to', e0, ⟨_, htb⟩, hcc⟩ := (hRS.out.below hBL.out hB) (by omega)
      injection e0 with e0
      injection e0 with e1 e2 _
      subst e1; subst e2
      have y1 := hcc j hjr 0 _ rfl
      have y2 := hcc j hjr 1 _ rfl
      have y3 := hcc j hjr 2 _ rfl
      have y4 := hcc j hjr 3 _ rfl
      simp only [Nat.add_zero] at y1
      have hOj := Lib.hid (hAL.out.2 j hjr hlt)
      have hxm : ts[j] ∈ ts := List.getElem_mem _
      have hym : minTo kG ts (j - 1) ∈ ts := by
        obtain ⟨mi, hmi, _, hme, _, _⟩ := minTo_at kG ts (j - 1) (by omega)
        rw [hme]; exact List.getElem_mem _
      have hS1 := Lib.hid (show kG ts[j] < kG (minTo kG ts (j - 1)) → minTo kG ts (j + 1 - 1) = ts[j] from fun h => by
        obtain ⟨p, rfl⟩ : ∃ p, j = p + 1 := ⟨j - 1, by omega⟩
        rw [Nat.add_sub_cancel] at h ⊢
        rw [minTo_less (by rw [getDT hlt]; exact h), getDT hlt])
      have hS2 := Lib.hid (show ¬ kG ts[j] < kG (minTo kG ts (j - 1)) → minTo kG ts (j + 1 - 1) = minTo kG ts (j - 1) from fun h => by
        obtain ⟨p, rfl⟩ : ∃ p, j = p + 1 := ⟨j - 1, by omega⟩
        rw [Nat.add_sub_cancel] at h ⊢
        rw [Nat.add_sub_cancel, minTo_keep (by rw [getDT hlt]; exact h)])
      generalize hnn : minTo kG ts (j + 1 - 1) = yn at *
      have hNN := Lib.hid hnn
      clear hnn
      generalize rs[j] = rj at *
      generalize ts[j] = x at *
      generalize minTo kG ts (j - 1) = y at *
      have hCL := Lib.hid (HF.out rj r x y hxm hym)
      have hji : (j : Int) < (ts.length : Int) := by omega
      have hj0 : (0 : Int) ≤ (j : Int) := by omega
      have hjh := Lib.hid hlt
      have hzw := hBL.out.size
      have htw : tb < wr.heap.size := by omega
      obtain ⟨PA, pc, QA, qc, rfl, _, _⟩ := hOj.out.form
      obtain ⟨PB, pd, QB, qd, rfl, _, _⟩ := hOR.out.form
      generalize kG x = kx at *
      generalize kG y = ky at *
      obtain ⟨xn, xps, xins, xc⟩ := x
      obtain ⟨yn', yps, yins, yc⟩ := y
      dsimp only at y1 y2 y3 y4 hCL hOj hOR hTR
      obtain ⟨m1, m2, m3, m4⟩ := hTR.out.cells
      have hTl : w.heap.size + 1 < wr.heap.size := CB.lt hTR.out
      dsimp only at m1 m2 m3 m4
      have hbd := Lib.hid (Below.refl wr.heap.size wr).drew
      have hCL2 := Lib.hid (hCL.out wr.drew (hBL.out.trans (hbd.out.mono hBL.out.size)) (hOj.out) (hOR.out))
      clear hcc hCL hxm hym
      go_wp2_with (fail)
      go_region_held3 (fun w' => w'.cell? ⟨tb, to' + j * 4, none⟩ = some (.int .i64 xn) ∧ w'.cell? ⟨tb, to' + j * 4 + 1, none⟩ = some (.slice PA xps.length pc) ∧ w'.cell? ⟨tb, to' + j * 4 + 2, none⟩ = some (.slice QA xins.length qc) ∧ w'.cell? ⟨tb, to' + j * 4 + 3, none⟩ = some (.int .i64 xc) ∧ w'.cell? ⟨w.heap.size + 1, 0, none⟩ = some (.int .i64 yn') ∧ w'.cell? ⟨w.heap.size + 1, 1, none⟩ = some (.slice PB yps.length pd) ∧ w'.cell? ⟨w.heap.size + 1, 2, none⟩ = some (.slice QB yins.length qd) ∧ w'.cell? ⟨w.heap.size + 1, 3, none⟩ = some (.int .i64 yc))
        (first
          | exact ⟨y1, y2, y3, y4, m1, m2, m3, m4⟩
          | exact eightG_next ⟨y1, y2, y3, y4, m1, m2, m3, m4⟩ hB3.out
          | go_keep)
        ((go_at_call 74; (with_reducible refine hCL2.out.mono ?_); rintro e w3 ⟨d, rfl, hd, h3⟩; have hB3 := Lib.hid (hbd.out.trans (h3.mono hbd.out.size)); have hDD := Lib.hid hd; clear hd))
      clear y1 y2 y3 y4 m1 m2 m3 m4
      have hT3 := Lib.hid (CB.below hTR.out hB3.out hTl)
      have hTZ3 := Lib.hid (CB.below hTZ.out hB3.out (by omega))
      have hB4 := Lib.hid (hBL.out.trans (hB3.out.mono hBL.out.size))
      obtain ⟨f1, f2, f3, f4⟩ := TX.fz hT3.out
      obtain ⟨n1, n2, n3, n4⟩ := TX.cells hT3.out
      dsimp only at n1 n2 n3 n4
      clear h3
      by_cases hq : d < 0
      · have hs := Lib.hid (hS1.out (hDD.out.1 hq))
        have hX := Lib.hid (TX.put hT3.out ⟨xn, .slice PA xps.length pc, .slice QA xins.length qc, xc⟩)
        have hY := Lib.hid (below_put4t hB4.out (show w.heap.size ≤ w.heap.size + 1 by omega) ⟨xn, .slice PA xps.length pc, .slice QA xins.length qc, xc⟩)
        have hZ := Lib.hid (TX.chgG hTZ3.out (chg_put4t w3 (w.heap.size + 1) ⟨xn, .slice PA xps.length pc, .slice QA xins.length qc, xc⟩) (by omega))
        go_wp2
        go_roundw
        case rel => exact ⟨j + 1, by omega, hjh.out, by go_num, hZ.out, ⟨_, hX.out, by rw [hNN.out, hs.out]; exact hOj.out⟩, hY.out⟩
        case measure => simp [intOf]; omega
      · have hs := Lib.hid (hS2.out (by have h1 : ¬ kx < ky := fun h => hq (hDD.out.2 h); omega))
        go_wp2
        go_roundw
        case rel => exact ⟨j + 1, by omega, hjh.out, by go_num, hTZ3.out, ⟨_, hT3.out, by rw [hNN.out, hs.out]; exact hOR.out⟩, hB4.out⟩
        case measure => simp [intOf]; omega
    · obtain rfl : j = ts.length := by omega
      obtain ⟨PB, pd, QB, qd, rfl, _, _⟩ := hOR.out.form
      have hKK : Hid (chK kG ts = minTo kG ts (ts.length - 1)) := rfl
      generalize minTo kG ts (ts.length - 1) = y at *
      obtain ⟨yn', yps, yins, yc⟩ := y
      dsimp only at hOR hTR
      obtain ⟨m1, m2, m3, m4⟩ := hTR.out.cells
      obtain ⟨f1, f2, f3, f4⟩ := TX.fz hTZ.out
      obtain ⟨n1, n2, n3, n4⟩ := TX.cells hTZ.out
      dsimp only [zeroRt] at n1 n2 n3 n4
      dsimp only at m1 m2 m3 m4
      have hX := Lib.hid (TX.put hTZ.out ⟨yn', .slice PB yps.length pd, .slice QB yins.length qd, yc⟩)
      have hY := Lib.hid (below_put4t hBL.out (Nat.le_refl _) ⟨yn', .slice PB yps.length pd, .slice QB yins.length qd, yc⟩)
      go_wp2
      refine tile_ret (g := w.heap.size) (r := ⟨yn', .slice PB yps.length pd, .slice QB yins.length qd, yc⟩) rfl rfl hX.out ?_
      exact ⟨_, rfl, by rw [hKK.out]; exact hOR.out.below hY.out hB, hY.out⟩
end Go.Proofs.Ytgcbfiamhpfkhaa

/- A region that draws its order, in a round of a range over a function: by the walk outside. -/
namespace Go.Proofs.Ytgcbfiamhpfkhaa
open Go.RowKit
set_option linter.unusedVariables false

/-- A region that goes on and nothing else. -/
def OnlyN (K : Act → World → Prop) : Exit → Act → World → Prop
  | .normal, a, w => K a w
  | _, _, _ => False
theorem oper_round {l n : Nat} {P : Program} {o : Oper} {a : Act} {w : World} {K K0 : Act → World → Prop} {Q : Exit → Act → World → Prop} (hd : ∀ c, o.op ≠ .defer c) (h : o.wp P a w K (OnlyN K0)) : o.wpIn (Fence.wide.inRound l) n P a w K Q := by
  refine ⟨fun _ _ => trivial, ?_⟩
  rw [show (Fence.wide.inRound l).round = some l from rfl, Oper.semAt_some l _ o hd]
  unfold Oper.wp at h
  generalize (execOp a.eval o).run P w = r at h ⊢
  cases r with
  | ok x w' =>
    cases x with
    | value v => exact h
    | skip => exact h
    | defer d => exact h
    | enter f args =>
      refine ⟨fun h => (by cases h), CallsIn.inRound l (callsIn_wide.2 (Calls.mono h ?_))⟩
      intro e w2 he
      cases e with
      | returned v => exact he
      | panicked c => exact (he : False).elim
      | outgrown =>
        obtain ⟨_, _, hx⟩ := (show LetsOut (OnlyN K0) from he)
        exact (show False from hx).elim
    | row r args =>
      refine ⟨fun h => (by cases h), fun c cs _ => ?_⟩
      obtain ⟨v, w2, hr, hs⟩ := h c cs
      exact ⟨v, w2, hr, stepsIn_wide.2 hs⟩
    | _ => exact (show False from h).elim
  | halt x w' =>
    cases x <;> exact (show False from h).elim

theorem wpOp_round {l n : Nat} {P : Program} {ops : Array Oper} {i : Nat} {a : Act} {w : World} {K K0 : Act → World → Prop} {Q : Exit → Act → World → Prop} (hd : ∀ (i : Nat) (o : Oper), ops[i]? = some o → ∀ c, o.op ≠ .defer c) (h : wpOp P ops (OnlyN K0) i K a w) : wpOpIn (Fence.wide.inRound l) n P ops Q i K a w := by
  unfold wpOp at h
  unfold wpOpIn
  cases ho : ops[i]? with
  | none => rw [ho] at h; exact h
  | some o =>
    rw [ho] at h
    simp only at h ⊢
    split
    · rename_i hw
      rw [if_pos hw] at h
      rcases h with h | ⟨_, h⟩
      · exact oper_round (hd i o ho) h
      · obtain ⟨_, _, hx⟩ := (show LetsOut (OnlyN K0) from h)
        exact (show False from hx).elim
    · rename_i hw
      rw [if_neg hw] at h
      exact ⟨fun _ _ => trivial, h⟩

theorem wpAny_round {l n : Nat} {P : Program} {ops : Array Oper} {md : Region.Mode} {K0 : Act → World → Prop} {Q : Exit → Act → World → Prop} (hd : ∀ (i : Nat) (o : Oper), ops[i]? = some o → ∀ c, o.op ≠ .defer c) (hQ : ∀ a w, K0 a w → Q .normal a w) :
    ∀ (fuel : Nat) (listed : Array Bool) (a : Act) (w : World), wpAny P md ops (OnlyN K0) fuel listed a w → wpAnyIn (Fence.wide.inRound l) n P md ops Q fuel listed a w := by
  intro fuel
  induction fuel with
  | zero => intro listed a w h; exact ⟨h.1, hQ _ _ h.2⟩
  | succ fuel ih =>
    intro listed a w h
    refine ⟨fun hr => hQ _ _ (h.1 hr), fun i hi => ?_⟩
    exact wpOpIn_mono (fun a w => ih _ a w) (wpOp_round hd (h.2 i hi))

/-- The region in a round: by the walk that takes the loads first. -/
theorem region_round {l n id : Nat} {P : Program} {ops : Array Oper} {S : World → Prop} {K0 : Act → World → Prop} {Q : Exit → Act → World → Prop} {a : Act} {w : World} (hm : P.follows .mixedOrders = true) (hd : ops.toList.all (fun o => match o.op with | .defer _ => false | _ => true) = true) (hQ : ∀ a w, K0 a w → Q .normal a w) (hS : S w.drew)
    (h : S w.drew → wpAnyH P .any ops (OnlyN K0) S ops.size (Array.replicate ops.size false) a w.drew) : (Code.region id ops true).wpIn (Fence.wide.inRound l) n P Q a w := by
  have hd' : ∀ (i : Nat) (o : Oper), ops[i]? = some o → ∀ c, o.op ≠ .defer c := by
    intro i o ho c hc
    have hm := (List.all_eq_true.1 hd) o (by rw [← Array.getElem?_toList] at ho; exact List.mem_of_getElem? ho)
    simp [hc] at hm
  refine wpIn_region_any hm (wpAny_round hd' hQ _ _ _ _ ?_)
  exact wpAny_of_held _ _ _ _ (h hS)
end Go.Proofs.Ytgcbfiamhpfkhaa
