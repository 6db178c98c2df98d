/- Texts of this proof, one behind the other: BB, BC, RR, GF, GG, GI. -/
import Derived.Test.YtgcbfiamhpfkhaaAG
import Derived.Test.YtgcbfiamhpfkhaaZ33
import Derived.Test.YtgcbfiamhpfkhaaZ8
import Derived.WalkKit
import Derived.WalkSpells
import Derived.WalkLawsBesides
import Derived.BigQuiet
import Derived.Lib.Hide
import Derived.Test.YtgcbfiamhpfkhaaEA
import Derived.RangeFuncNested
import Derived.RangeFuncCalls
import Derived.RangeFuncLeaves
import Derived.TacticsInMore
import Derived.OrdersIn
import Derived.Deep.RegionHeld3
import Derived.Test.YtgcbfiamhpfkhaaZ7
import Derived.RangeFuncBound
import Derived.RangeFuncBox
import Derived.Shelf.Abstract
import Derived.Shelf.RegionOpen
import Derived.OwnWalkIn
import Derived.LoopNIn
import Derived.LoopIn
import Derived.Test.YtgcbfiamhpfkhaaZ9
/- The need of a tile: the program. -/
namespace Go.Proofs.Ytgcbfiamhpfkhaa
open Go.RowKit
set_option linter.unusedVariables false
set_option maxRecDepth 100000

/-- The places of a tile's parts in the order in which they are evaluated. -/
def plc (nd : List Int) (ps : List Int) : List Int :=
  match ps with
  | [] => []
  | [_] => [0]
  | p :: q :: _ => if nd.getD p.toNat 0 < nd.getD q.toNat 0 then [1, 0] else [0, 1]
def PlGot (w : World) (xs : List Int) (e : Ending) (w' : World) : Prop := ∃ A c, e = .returned (.slice A xs.length c) ∧ IS w' w.heap.size w'.heap.size A xs ∧ Below w.heap.size w w'
theorem ib_short {w : World} {g k : Nat} {t : TypeId} {xs : List Int} (h : IB w g t xs) : IS w g (g + 1) (some ⟨g, 0, none⟩) (xs.take k) := by
  intro _
  refine ⟨g, 0, rfl, ⟨Nat.le_refl _, Nat.lt_succ_self _⟩, fun i hi => ?_⟩
  have hi' : i < xs.length := by rw [List.length_take] at hi; omega
  rw [List.getElem_take, Nat.zero_add]; exact h.cell i hi'
set_option maxHeartbeats 8000000 in
theorem placesOf_any (L B NL NB n c tc nc : Nat) (A TA NA : Option Addr) (nd : List Int) (x : Ti) (r : Rt) (w : World) (hn : nd.length = n) (hn24 : n ≤ 24) (hnd : IS w NL NB NA nd) (hNB : NB ≤ w.heap.size) (hr : RtOk w L B r x) (hB : B ≤ w.heap.size) (hx2 : x.ps.length ≤ 2) (hxp : ∀ p ∈ x.ps, 0 ≤ p ∧ p < (n : Int)) :
    Calls Try.prog 169 #[.agg #[.slice A n c, .slice TA n tc, .slice NA n nc], .agg #[.int .i64 r.num, r.p, r.q, .int .i64 r.c]] w (PlGot w (plc nd x.ps)) := by
  obtain ⟨PA, pc, QA, qc, rfl, hp, _⟩ := hr.form
  obtain ⟨xn, ps, ins, xc⟩ := x
  dsimp only at hx2 hxp hp ⊢
  obtain ⟨W, hW⟩ : ∃ W, W = (w.alloc (.cells #[.slice A n c, .slice TA n tc, .slice NA n nc] 92)).alloc (.cells #[.int .i64 xn, .slice PA ps.length pc, .slice QA ins.length qc, .int .i64 xc] 77) := ⟨_, rfl⟩
  have bb : Below w.heap.size w W := by rw [hW]; exact ((Below.refl _ w).alloc (Nat.le_refl _) _).alloc (by simp) _
  have zW : W.heap.size = w.heap.size + 1 + 1 := by rw [hW, World.size_alloc, World.size_alloc]
  have nx : CB 92 W w.heap.size [.slice A n c, .slice TA n tc, .slice NA n nc] := by
    rw [hW]; exact CB.below (heap_alloc_new w _) ((Below.refl _ _).alloc (Nat.le_refl _) _) (by simp)
  have ny : CB 77 W (w.heap.size + 1) [.int .i64 xn, .slice PA ps.length pc, .slice QA ins.length qc, .int .i64 xc] := by
    rw [hW]; have h := heap_alloc_new (w.alloc (.cells #[.slice A n c, .slice TA n tc, .slice NA n nc] 92)) (.cells #[.int .i64 xn, .slice PA ps.length pc, .slice QA ins.length qc, .int .i64 xc] 77); rw [World.size_alloc] at h; exact h
  have c2 := nx.cell 2
  have d1 := ny.cell 1
  simp only [List.getElem?_cons_zero, List.getElem?_cons_succ] at c2 d1
  have hWh := Lib.hid hW.symm
  have bh := Lib.hid bb
  have hN := Lib.hid (hnd.below bb hNB)
  have hP := Lib.hid ((hp.below bb hB).rs)
  have hAl := Lib.hid fun (V : World) (xs : List Int) => (show IB (V.alloc (.cells (intCells xs) 3)) V.heap.size 3 xs from heap_alloc_new V _)
  have hGo := Lib.hid fun (nq : Nat) (xs : List Int) (k m : Nat) (h2 : xs.length = 2) (ys : List Int) (he : ys = xs.take k) (hm : ys.length = m) => (show PlGot w ys (.returned (.slice (some ⟨w.heap.size + 1 + 1, 0, none⟩) m 2)) ((W.drewN nq).alloc (.cells (intCells xs) 3)) from by
    have hd : Below w.heap.size w (W.drewN nq) := ⟨bb.os, bb.tape, bb.output, bb.size, bb.block⟩
    have hib : IB ((W.drewN nq).alloc (.cells (intCells xs) 3)) (w.heap.size + 1 + 1) 3 xs := by rw [← zW]; exact heap_alloc_new (W.drewN nq) _
    refine ⟨_, 2, by rw [hm], ?_, hd.alloc hd.size _⟩
    rw [he]
    exact (ib_short hib).more (by omega) (Nat.succ_le_of_lt hib.lt))
  clear hnd hNB hr hB hp nx ny bb hW
  rcases (show ps = [] ∨ (∃ p, ps = [p]) ∨ (∃ p q, ps = [p, q]) from by
    match ps, hx2 with
    | [], _ => exact .inl rfl
    | [p], _ => exact .inr (.inl ⟨p, rfl⟩)
    | [p, q], _ => exact .inr (.inr ⟨p, q, rfl⟩)) with rfl | ⟨p, rfl⟩ | ⟨p, q, rfl⟩
  · simp only [List.length_nil, List.length_cons, Nat.zero_add, Nat.reduceAdd] at d1 hWh ⊢
    go_enter Try.func169, Try.ntmps169
    go_wp2_with (fail)
    rw [hWh.out]
    clear hWh
    go_quiet (fail)
    go_wp2_with (fail)
    go_ret
    exact hGo.out _ [0, 1] 0 0 rfl _ rfl rfl
  · simp only [List.length_nil, List.length_cons, Nat.zero_add, Nat.reduceAdd] at d1 hWh ⊢
    go_enter Try.func169, Try.ntmps169
    go_wp2_with (fail)
    rw [hWh.out]
    clear hWh
    go_quiet (fail)
    go_wp2_with (fail)
    go_ret
    exact hGo.out _ [0, 1] 1 1 rfl _ rfl rfl
  · simp only [List.length_nil, List.length_cons, Nat.zero_add, Nat.reduceAdd] at d1 hWh ⊢
    obtain ⟨pb, po, rfl, ⟨_, hpB⟩, hcc⟩ := hP.out (by simp)
    have e1 := hcc 0 (by simp)
    have e2 := hcc 1 (by simp)
    simp only [Nat.add_zero, List.getElem_cons_zero, List.getElem_cons_succ] at e1 e2
    have h1 := hxp p (by simp)
    have h2 := hxp q (by simp)
    obtain ⟨pn, rfl⟩ := Int.eq_ofNat_of_zero_le h1.1
    obtain ⟨qn, rfl⟩ := Int.eq_ofNat_of_zero_le h2.1
    obtain ⟨nb, no, rfl, ⟨_, hnB⟩, hnn⟩ := hN.out (by omega)
    have g1 := hnn pn (by omega)
    have g2 := hnn qn (by omega)
    rw [show nd[pn]'(by omega) = nd.getD pn 0 from (getD_get (by omega)).symm] at g1
    rw [show nd[qn]'(by omega) = nd.getD qn 0 from (getD_get (by omega)).symm] at g2
    have hpn0 : (0 : Int) ≤ (pn : Int) := by omega
    have hpnn : (pn : Int) < (n : Int) := by omega
    have hqn0 : (0 : Int) ≤ (qn : Int) := by omega
    have hqnn : (qn : Int) < (n : Int) := by omega
    have hPl : Hid (plc nd [(pn : Int), (qn : Int)] = if nd.getD pn 0 < nd.getD qn 0 then [1, 0] else [0, 1]) := rfl
    clear hcc hnn hxp
    generalize plc nd [(pn : Int), (qn : Int)] = R at *
    generalize nd.getD pn 0 = vp at *
    generalize nd.getD qn 0 = vq at *
    by_cases hlt : vp < vq
    · rw [if_pos hlt] at hPl
      have hq : decide (vq > vp) = true := decide_eq_true hlt
      go_enter Try.func169, Try.ntmps169
      go_wp2_with (fail)
      rw [hWh.out]
      clear hWh
      go_quiet (fail)
      go_wp2_with (fail)
      go_ret
      rw [hPl.out]
      exact hGo.out _ [1, 0] 2 2 rfl _ rfl rfl
    · rw [if_neg hlt] at hPl
      have hq : decide (vq > vp) = false := decide_eq_false hlt
      go_enter Try.func169, Try.ntmps169
      go_wp2_with (fail)
      rw [hWh.out]
      clear hWh
      go_quiet (fail)
      go_wp2_with (fail)
      go_ret
      rw [hPl.out]
      exact hGo.out _ [0, 1] 2 2 rfl _ rfl rfl
end Go.Proofs.Ytgcbfiamhpfkhaa

/- The need of a tile: the program's sum over its parts. -/
namespace Go.Proofs.Ytgcbfiamhpfkhaa
open Go.RowKit
set_option linter.unusedVariables false
set_option maxRecDepth 100000

/-- What the places' parts need, in their order. -/
def plV (nd ps : List Int) : List Int := (plc nd ps).map (fun a => nd.getD (ps.getD a.toNat 0).toNat 0)
def nfN (vs : List Int) : Nat → Int × Int
  | 0 => (1, 0)
  | k + 1 => (max (nfN vs k).1 (vs.getD k 0 + (nfN vs k).2), (nfN vs k).2 + min (vs.getD k 0) 1)
theorem nfN_succ (vs : List Int) (k : Nat) : nfN vs (k + 1) = (max (nfN vs k).1 (vs.getD k 0 + (nfN vs k).2), (nfN vs k).2 + min (vs.getD k 0) 1) := rfl
theorem plc_len (nd ps : List Int) (h : ps.length ≤ 2) : (plc nd ps).length = ps.length := by
  match ps, h with
  | [], _ => rfl
  | [p], _ => rfl
  | [p, q], _ => unfold plc; simp only; split <;> rfl
theorem plc_mem (nd ps : List Int) (h : ps.length ≤ 2) : ∀ a ∈ plc nd ps, 0 ≤ a ∧ a < (ps.length : Int) := by
  match ps, h with
  | [], _ => intro a ha; simp [plc] at ha
  | [p], _ => intro a ha; simp [plc] at ha; subst ha; simp
  | [p, q], _ =>
    intro a ha
    unfold plc at ha
    simp only at ha
    split at ha
    all_goals
      simp at ha
      rcases ha with rfl | rfl <;> simp
theorem nf_ndT {nd ps ins : List Int} {xn xc : Int} (h2 : ps.length ≤ 2) (h0 : ¬ xn = 0) (hb : ∀ p ∈ ps, 0 ≤ nd.getD p.toNat 0) : (nfN (plV nd ps) ps.length).1 = ndT nd ⟨xn, ps, ins, xc⟩ := by
  unfold ndT
  rw [if_neg h0]
  match ps, h2 with
  | [], _ => rfl
  | [p], _ =>
    have := hb p (by simp)
    simp only [plV, plc, nfN, List.map_cons, List.map_nil, List.length_cons, List.length_nil, List.getD_cons_zero, Int.toNat_zero]
    show max 1 ((List.getD [nd.getD (List.getD [p] (0 : Int).toNat 0).toNat 0] 0 0) + 0) = max 1 (nd.getD p.toNat 0)
    simp
  | [p, q], _ =>
    have h1 := hb p (by simp)
    have h3 := hb q (by simp)
    unfold plV plc
    simp only
    generalize hv : nd.getD p.toNat 0 = v at *
    generalize hu : nd.getD q.toNat 0 = u at *
    have e1 : ([p, q].getD (1 : Int).toNat 0) = q := rfl
    have e0 : ([p, q].getD (0 : Int).toNat 0) = p := rfl
    by_cases h : v < u
    · rw [if_pos h]
      simp only [List.map_cons, List.map_nil, e1, e0, hu, hv]
      show max (max 1 (u + 0)) (v + (0 + min u 1)) = seB (max v u) (min v u)
      unfold seB; split <;> omega
    · rw [if_neg h]
      simp only [List.map_cons, List.map_nil, e1, e0, hu, hv]
      show max (max 1 (v + 0)) (u + (0 + min v 1)) = seB (max v u) (min v u)
      unfold seB; split <;> omega
theorem nfN_bd {vs : List Int} (hb : ∀ v ∈ vs, 0 ≤ v ∧ v ≤ 24) : ∀ k, k ≤ vs.length → (1 ≤ (nfN vs k).1 ∧ (nfN vs k).1 ≤ 24 + k + 1) ∧ (0 ≤ (nfN vs k).2 ∧ (nfN vs k).2 ≤ k)
  | 0, _ => by unfold nfN; simp
  | k + 1, h => by
    have ih := nfN_bd hb k (by omega)
    have hv := hb vs[k] (List.getElem_mem _)
    rw [nfN_succ, getD_get (by omega : k < vs.length)]
    simp only
    omega

set_option maxHeartbeats 8000000 in
theorem needOf_any (L B NL NB n c tc nc : Nat) (A TA NA : Option Addr) (nd : List Int) (x : Ti) (r : Rt) (w : World) (hn : nd.length = n) (hn24 : n ≤ 24) (hnd : IS w NL NB NA nd) (hNB : NB ≤ w.heap.size) (hr : RtOk w L B r x) (hB : B ≤ w.heap.size) (hx2 : x.ps.length ≤ 2) (hxp : ∀ p ∈ x.ps, 0 ≤ p ∧ p < (n : Int)) (hxb : ∀ p ∈ x.ps, 0 ≤ nd.getD p.toNat 0 ∧ nd.getD p.toNat 0 ≤ 24) :
    Calls Try.prog 138 #[.agg #[.slice A n c, .slice TA n tc, .slice NA n nc], .agg #[.int .i64 r.num, r.p, r.q, .int .i64 r.c]] w fun e w' => e = .returned (.int .i64 (ndT nd x)) ∧ Below w.heap.size w w' := by
  have HPl := Lib.hid fun (W : World) (hW : Below w.heap.size w W) => placesOf_any L B NL NB n c tc nc A TA NA nd x r W hn hn24 (hnd.below hW hNB) (Nat.le_trans hNB hW.size) (hr.below hW hB) (Nat.le_trans hB hW.size) hx2 hxp
  obtain ⟨PA, pc, QA, qc, rfl, hp, _⟩ := hr.form
  obtain ⟨xn, ps, ins, xc⟩ := x
  dsimp only at hx2 hxp hxb hp HPl ⊢
  obtain ⟨W, hW⟩ : ∃ W, W = (w.alloc (.cells #[.slice A n c, .slice TA n tc, .slice NA n nc] 92)).alloc (.cells #[.int .i64 xn, .slice PA ps.length pc, .slice QA ins.length qc, .int .i64 xc] 77) := ⟨_, rfl⟩
  have bb : Below w.heap.size w W := by rw [hW]; exact ((Below.refl _ w).alloc (Nat.le_refl _) _).alloc (by simp) _
  have zW : W.heap.size = w.heap.size + 1 + 1 := by rw [hW, World.size_alloc, World.size_alloc]
  have nx : CB 92 W w.heap.size [.slice A n c, .slice TA n tc, .slice NA n nc] := by
    rw [hW]; exact CB.below (heap_alloc_new w _) ((Below.refl _ _).alloc (Nat.le_refl _) _) (by simp)
  have ny : CB 77 W (w.heap.size + 1) [.int .i64 xn, .slice PA ps.length pc, .slice QA ins.length qc, .int .i64 xc] := by
    rw [hW]; have h := heap_alloc_new (w.alloc (.cells #[.slice A n c, .slice TA n tc, .slice NA n nc] 92)) (.cells #[.int .i64 xn, .slice PA ps.length pc, .slice QA ins.length qc, .int .i64 xc] 77); rw [World.size_alloc] at h; exact h
  have c0 := nx.cell 0
  have c1 := nx.cell 1
  have c2 := nx.cell 2
  have d0 := ny.cell 0
  have d1 := ny.cell 1
  have d2 := ny.cell 2
  have d3 := ny.cell 3
  simp only [List.getElem?_cons_zero, List.getElem?_cons_succ] at c0 c1 c2 d0 d1 d2 d3
  have hWh := Lib.hid hW.symm
  have bh := Lib.hid bb
  have hN := Lib.hid (hnd.below bb hNB)
  have hP := Lib.hid ((hp.below bb hB).rs)
  have zNB : NB ≤ W.heap.size := Nat.le_trans hNB bb.size
  have zB : B ≤ W.heap.size := Nat.le_trans hB bb.size
  have hXP := Lib.hid hxp
  have hXB := Lib.hid hxb
  clear hnd hNB hr hB hp nx ny bb hW hxp hxb
  by_cases h0 : xn = 0
  · subst h0
    have hR : Hid (ndT nd ⟨0, ps, ins, xc⟩ = 0) := if_pos rfl
    go_enter Try.func138, Try.ntmps138
    go_wp2_with (fail)
    rw [hWh.out]
    go_wp2
    go_ret
    exact ⟨ret_int hR.out.symm, bh.out⟩
  have hR := Lib.hid (nf_ndT (ins := ins) (xc := xc) hx2 h0 (fun p hp => (hXB.out p hp).1))
  have hpl := plc_len nd ps hx2
  have hpm := Lib.hid (plc_mem nd ps hx2)
  have hvs : (plV nd ps).length = ps.length := by unfold plV; rw [List.length_map, hpl]
  have hvb := Lib.hid (show ∀ v ∈ plV nd ps, 0 ≤ v ∧ v ≤ 24 from by
    intro v hv
    unfold plV at hv
    obtain ⟨a, ha, rfl⟩ := List.mem_map.1 hv
    have := plc_mem nd ps hx2 a ha
    have hh : a.toNat < ps.length := by omega
    rw [getD_get hh]
    exact hXB.out _ (List.getElem_mem _))
  have hvg := Lib.hid (show ∀ k, k < ps.length → ∀ (h : k < (plc nd ps).length), (plV nd ps).getD k 0 = nd.getD (ps.getD ((plc nd ps)[k]).toNat 0).toNat 0 from fun k hk h => by
    unfold plV; rw [getD_get (by rw [List.length_map]; exact h), List.getElem_map])
  have hnb := Lib.hid (nfN_bd hvb.out)
  rw [hvs] at hnb
  generalize ndT nd ⟨xn, ps, ins, xc⟩ = R at *
  have hxb0 : (xn == 0) = false := by simpa using h0
  have hPlc := Lib.hid (HPl.out W bh.out)
  clear HPl
  generalize plV nd ps = vs at *
  generalize plc nd ps = pls at *
  go_enter Try.func138, Try.ntmps138
  go_wp2_with (fail)
  rw [hWh.out]
  clear hWh
  go_wp2_with (go_at_call 169; refine hPlc.out.mono ?_; rintro e w3 ⟨LA, lc, rfl, hls, hb3⟩; have hLS := Lib.hid hls; have hB3 := Lib.hid hb3; clear hls hb3)
  have hplh := Lib.hid hpl
  go_loopw [5, 6, 17] (fun u v q wr => ∃ k : Nat, k ≤ ps.length ∧ q = .int .i64 k ∧ u = .int .i64 (nfN vs k).1 ∧ v = .int .i64 (nfN vs k).2 ∧ Below w3.heap.size w3 wr) (fun _ _ q _ => ps.length - (intOf q).toNat)
  case atStart => exact ⟨0, Nat.zero_le _, rfl, rfl, rfl, Below.refl _ _⟩
  case round =>
    obtain ⟨k, hk, rfl, rfl, rfl, hbel⟩ := hrel
    have hBW := Lib.hid (hB3.out.trans (hbel.mono hB3.out.size))
    have hBL := Lib.hid hbel
    have hkb := hnb.out k hk
    by_cases hlt : k < ps.length
    · obtain ⟨lb, lo, rfl, ⟨_, hlB⟩, hll⟩ := (hLS.out.below hbel (Nat.le_refl _)) (by rw [hplh.out]; omega)
      have y1 := hll k (by rw [hplh.out]; exact hlt)
      have hpa := hpm.out pls[k] (List.getElem_mem _)
      have hva := hvg.out k hlt (by rw [hplh.out]; exact hlt)
      clear hll
      generalize pls[k]'(by rw [hplh.out]; exact hlt) = a at *
      obtain ⟨an, rfl⟩ := Int.eq_ofNat_of_zero_le hpa.1
      have han : an < ps.length := by omega
      obtain ⟨pb, po, rfl, ⟨_, hpB⟩, hpp⟩ := (hP.out.below hBW.out zB) (by omega)
      have y2 := hpp an han
      have hq1 := hXP.out ps[an] (List.getElem_mem _)
      have hq2 := hXB.out ps[an] (List.getElem_mem _)
      rw [Int.toNat_natCast, getD_get han] at hva
      clear hpp
      generalize ps[an]'han = p at *
      obtain ⟨pn, rfl⟩ := Int.eq_ofNat_of_zero_le hq1.1
      obtain ⟨nb, no, rfl, ⟨_, hnB⟩, hnn⟩ := (hN.out.below hBW.out zNB) (by omega)
      have y3 := hnn pn (by omega)
      rw [show nd[pn]'(by omega) = nd.getD pn 0 from (getD_get (by omega)).symm] at y3
      rw [Int.toNat_natCast] at hva hq2
      have hS := Lib.hid (nfN_succ vs k)
      rw [hva] at hS
      clear hnn hva
      generalize nd.getD pn 0 = v at *
      have e2 := (hBW.out.cell (p := ⟨w.heap.size, 2, none⟩) (by show w.heap.size < W.heap.size; omega)).trans c2
      have e1 := (hBW.out.cell (p := ⟨w.heap.size + 1, 1, none⟩) (by show w.heap.size + 1 < W.heap.size; omega)).trans d1
      generalize hn1 : nfN vs k = nk at *
      have hNK := Lib.hid hn1
      clear hn1
      obtain ⟨need, held⟩ := nk
      dsimp only at hkb hS ⊢
      have hw1 : IntKind.i64.wrap (v + held) = v + held := by rw [IntKind.wrap_i64]; omega
      have hw2 : IntKind.i64.wrap (held + min v 1) = held + min v 1 := by rw [IntKind.wrap_i64]; omega
      have hki : (k : Int) < (ps.length : Int) := by omega
      have hk0 : (0 : Int) ≤ (k : Int) := by omega
      have hai : (an : Int) < (ps.length : Int) := by omega
      have ha0 : (0 : Int) ≤ (an : Int) := by omega
      have hpi : (pn : Int) < (n : Int) := by omega
      have hp0 : (0 : Int) ≤ (pn : Int) := by omega
      have hplI : (pls.length : Int) = (ps.length : Int) := by rw [hplh.out]
      have hjh := Lib.hid hlt
      have hBd := Lib.hid hBL.out.drew
      clear hbel c0 c1 c2 d0 d1 d2 d3
      go_wp2_with (fail)
      go_region
      all_goals
        go_wp2
        go_roundw
        case rel => exact ⟨k + 1, by omega, by go_num, by rw [hS.out]; exact congrArg (Value.int .i64) (by dsimp only; split <;> omega), by rw [hS.out]; exact congrArg (Value.int .i64) (by dsimp only; split <;> omega), hBd.out⟩
        case measure => simp [intOf]; omega
    · obtain rfl : k = ps.length := by omega
      have hBe := Lib.hid (bh.out.trans (hBW.out.mono bh.out.size))
      have hplI : (pls.length : Int) = (ps.length : Int) := by rw [hplh.out]
      go_wp2
      go_ret
      exact ⟨by rw [← hR.out]; rfl, hBe.out⟩
end Go.Proofs.Ytgcbfiamhpfkhaa

/- A region that draws its order, in a round of a range over a function: by the walk outside. -/
namespace Go.Proofs.Ytgcbfiamhpfkhaa
open Go.RowKit
set_option linter.unusedVariables false

/-- A region that goes on and nothing else. -/
def OnlyN (K : Act → World → Prop) : Exit → Act → World → Prop
  | .normal, a, w => K a w
  | _, _, _ => False
theorem oper_round {l n : Nat} {P : Program} {o : Oper} {a : Act} {w : World} {K K0 : Act → World → Prop} {Q : Exit → Act → World → Prop} (hd : ∀ c, o.op ≠ .defer c) (h : o.wp P a w K (OnlyN K0)) : o.wpIn (Fence.wide.inRound l) n P a w K Q := by
  refine ⟨fun _ _ => trivial, ?_⟩
  rw [show (Fence.wide.inRound l).round = some l from rfl, Oper.semAt_some l _ o hd]
  unfold Oper.wp at h
  generalize (execOp a.eval o).run P w = r at h ⊢
  cases r with
  | ok x w' =>
    cases x with
    | value v => exact h
    | skip => exact h
    | defer d => exact h
    | enter f args =>
      refine ⟨fun h => (by cases h), CallsIn.inRound l (callsIn_wide.2 (Calls.mono h ?_))⟩
      intro e w2 he
      cases e with
      | returned v => exact he
      | panicked c => exact (he : False).elim
      | outgrown =>
        obtain ⟨_, _, hx⟩ := (show LetsOut (OnlyN K0) from he)
        exact (show False from hx).elim
    | row r args =>
      refine ⟨fun h => (by cases h), fun c cs _ => ?_⟩
      obtain ⟨v, w2, hr, hs⟩ := h c cs
      exact ⟨v, w2, hr, stepsIn_wide.2 hs⟩
    | _ => exact (show False from h).elim
  | halt x w' =>
    cases x <;> exact (show False from h).elim

theorem wpOp_round {l n : Nat} {P : Program} {ops : Array Oper} {i : Nat} {a : Act} {w : World} {K K0 : Act → World → Prop} {Q : Exit → Act → World → Prop} (hd : ∀ (i : Nat) (o : Oper), ops[i]? = some o → ∀ c, o.op ≠ .defer c) (h : wpOp P ops (OnlyN K0) i K a w) : wpOpIn (Fence.wide.inRound l) n P ops Q i K a w := by
  unfold wpOp at h
  unfold wpOpIn
  cases ho : ops[i]? with
  | none => rw [ho] at h; exact h
  | some o =>
    rw [ho] at h
    simp only at h ⊢
    split
    · rename_i hw
      rw [if_pos hw] at h
      rcases h with h | ⟨_, h⟩
      · exact oper_round (hd i o ho) h
      · obtain ⟨_, _, hx⟩ := (show LetsOut (OnlyN K0) from h)
        exact (show False from hx).elim
    · rename_i hw
      rw [if_neg hw] at h
      exact ⟨fun _ _ => trivial, h⟩

theorem wpAny_round {l n : Nat} {P : Program} {ops : Array Oper} {md : Region.Mode} {K0 : Act → World → Prop} {Q : Exit → Act → World → Prop} (hd : ∀ (i : Nat) (o : Oper), ops[i]? = some o → ∀ c, o.op ≠ .defer c) (hQ : ∀ a w, K0 a w → Q .normal a w) :
    ∀ (fuel : Nat) (listed : Array Bool) (a : Act) (w : World), wpAny P md ops (OnlyN K0) fuel listed a w → wpAnyIn (Fence.wide.inRound l) n P md ops Q fuel listed a w := by
  intro fuel
  induction fuel with
  | zero => intro listed a w h; exact ⟨h.1, hQ _ _ h.2⟩
  | succ fuel ih =>
    intro listed a w h
    refine ⟨fun hr => hQ _ _ (h.1 hr), fun i hi => ?_⟩
    exact wpOpIn_mono (fun a w => ih _ a w) (wpOp_round hd (h.2 i hi))

/-- The region in a round: by the walk that takes the loads first. -/
theorem region_round {l n id : Nat} {P : Program} {ops : Array Oper} {S : World → Prop} {K0 : Act → World → Prop} {Q : Exit → Act → World → Prop} {a : Act} {w : World} (hm : P.follows .mixedOrders = true) (hd : ops.toList.all (fun o => match o.op with | .defer _ => false | _ => true) = true) (hQ : ∀ a w, K0 a w → Q .normal a w) (hS : S w.drew)
    (h : S w.drew → wpAnyH P .any ops (OnlyN K0) S ops.size (Array.replicate ops.size false) a w.drew) : (Code.region id ops true).wpIn (Fence.wide.inRound l) n P Q a w := by
  have hd' : ∀ (i : Nat) (o : Oper), ops[i]? = some o → ∀ c, o.op ≠ .defer c := by
    intro i o ho c hc
    have hm := (List.all_eq_true.1 hd) o (by rw [← Array.getElem?_toList] at ho; exact List.mem_of_getElem? ho)
    simp [hc] at hm
  refine wpIn_region_any hm (wpAny_round hd' hQ _ _ _ _ ?_)
  exact wpAny_of_held _ _ _ _ (h hS)
end Go.Proofs.Ytgcbfiamhpfkhaa

/- tilesOfCover of the program. -/
namespace Go.Proofs.Ytgcbfiamhpfkhaa
open Go.RowKit Go.Shelf
set_option linter.unusedVariables false
set_option maxRecDepth 100000
attribute [local go_sem] Oper.semAt_some

def CoverGot (w : World) (o : Option (List Ti)) (e : Ending) (w' : World) : Prop :=
  ∃ A c rs, e = .returned (.tuple #[.slice A (o.getD []).length c, .bool o.isSome]) ∧ RS Rt.enc 4 w' w.heap.size w'.heap.size A rs ∧ AllOk w' w.heap.size w'.heap.size rs (o.getD []) ∧ Below w.heap.size w w'
/-- What lies in the boxes of tilesOfCover. -/
structure TB (w0 W : World) (es : List Nd) (A A' : Option Addr) (c c' m : Nat) (q g h : Nat) (V : Value) (cs : List Int) (out : List Ti) : Prop where
  b2 : BX W w0.heap.size 27 (.slice A es.length c)
  b3 : BX W (w0.heap.size + 1) 23 (.slice A' m c')
  b4 : BX W (w0.heap.size + 1 + 1) 74 (.slice none 0 0)
  b5 : BX W (w0.heap.size + 1 + 1 + 1) 4 (.bool false)
  q4 : w0.heap.size + 1 + 1 + 1 < q
  b8 : BX W q 74 V
  gq : q < g
  ib : IB W g 3 cs
  gh : g < h
  b9 : BX W h 23 (.slice (some ⟨g, 0, none⟩) es.length es.length)
  rows : ∃ rs : List Rt, (∃ VA vc, V = .slice VA out.length vc) ∧ OK Rt.enc 4 77 W (h + 1) W.heap.size V rs ∧ AllOk W (h + 1) W.heap.size rs out
  be : Below w0.heap.size w0 W

theorem own_not {w : World} {row : Option Nat} {base size n : Nat} {e : TypeId} {v : Value} {xs : List Value} (h : w.ownsRow base e size v n xs) (hr : ∀ r, row = some r → ∃ o : Obj, w.heap[r]? = some o ∧ o.isCells = false) : v.ownBlock = none ∨ v.ownBlock ≠ row := by
  rcases h.2 with ⟨rfl, _⟩ | ⟨g, cap, cur, rfl, _, hh, _⟩
  · exact .inl rfl
  · exact .inr (fun e => row_not hh hr e.symm)
theorem OW.keptO {w w' : World} {lo hi : Nat} {v : Value} {xs : List Int} {row : Option Nat} (h : OW w lo hi v xs) (hg : w.grownBy w' row) (hr : ∀ r, row = some r → ∃ o : Obj, w.heap[r]? = some o ∧ o.isCells = false) : OW w' lo hi v xs := ⟨h.1.kept hg (own_not h.1 hr), h.2⟩
theorem RtOk.keptO {w w' : World} {L B : Nat} {r : Rt} {t : Ti} {row : Option Nat} (h : RtOk w L B r t) (hg : w.grownBy w' row) (hr : ∀ r, row = some r → ∃ o : Obj, w.heap[r]? = some o ∧ o.isCells = false) : RtOk w' L B r t := ⟨h.1, h.2.1, h.2.2.1.keptO hg hr, h.2.2.2.keptO hg hr⟩
theorem TB.kept {w0 W W' : World} {es : List Nd} {A A' : Option Addr} {c c' m q g h : Nat} {V : Value} {cs : List Int} {out : List Ti} {row : Option Nat} (hT : TB w0 W es A A' c c' m q g h V cs out) (hg : W.grownBy W' row) (hr : ∀ r, row = some r → w0.heap.size ≤ r ∧ ∃ o : Obj, W.heap[r]? = some o ∧ o.isCells = false) : TB w0 W' es A A' c c' m q g h V cs out := by
  have hr' : ∀ r, row = some r → ∃ o : Obj, W.heap[r]? = some o ∧ o.isCells = false := fun r e => (hr r e).2
  have bx : ∀ {b : Nat} {t : TypeId} {v : Value}, BX W b t v → BX W' b t v := fun hb => hb.kept hg (row_not hb hr')
  obtain ⟨rs, hV, ho, ha⟩ := hT.rows
  refine ⟨bx hT.b2, bx hT.b3, bx hT.b4, bx hT.b5, hT.q4, bx hT.b8, hT.gq, ?_, hT.gh, bx hT.b9, ?_, ?_⟩
  · exact (hg.block g hT.ib.lt (fun e => row_not (show W.heap[g]? = some (.cells (intCells cs) 3 (0, 0)) from hT.ib) hr' e.symm)).trans hT.ib
  · exact ⟨rs, hV, OK.more ⟨ho.1.kept hg (own_not ho.1 hr'), ho.2⟩ hg.size, ⟨ha.1, fun k h1 h2 => ((ha.2 k h1 h2).keptO hg hr').more (Nat.le_refl _) hg.size⟩⟩
  · exact hT.be.grown hg hT.be.size (fun k e => (hr k e).1)

theorem AllOk.chg {w w' : World} {L B lo hi : Nat} {rs : List Rt} {ts : List Ti} (h : AllOk w L B rs ts) (hc : Chg lo hi w w') (hd : B ≤ lo ∨ hi ≤ L) : AllOk w' L B rs ts := ⟨h.1, fun k h1 h2 => (h.2 k h1 h2).chg hc hd⟩
theorem TB.below {w0 W W' : World} {es : List Nd} {A A' : Option Addr} {c c' m q g h : Nat} {V : Value} {cs : List Int} {out : List Ti} (hT : TB w0 W es A A' c c' m q g h V cs out) (hb : Below W.heap.size W W') : TB w0 W' es A A' c c' m q g h V cs out := by
  obtain ⟨rs, hV, ho, ha⟩ := hT.rows
  refine ⟨hT.b2.next hb, hT.b3.next hb, hT.b4.next hb, hT.b5.next hb, hT.q4, hT.b8.next hb, hT.gq, hT.ib.below hb hT.ib.lt, hT.gh, hT.b9.next hb, ?_, hT.be.trans (hb.mono hT.be.size)⟩
  exact ⟨rs, hV, (ho.below hb (Nat.le_refl _)).more hb.size, (ha.below hb (Nat.le_refl _)).more (Nat.le_refl _) hb.size⟩
/-- The cover's row is written. -/
theorem TB.lay {w0 W W' : World} {es : List Nd} {A A' : Option Addr} {c c' m q g h : Nat} {V : Value} {cs cs' : List Int} {out : List Ti} (hT : TB w0 W es A A' c c' m q g h V cs out) (hc : Chg g (g + 1) W W') (hi : IB W' g 3 cs') : TB w0 W' es A A' c c' m q g h V cs' out := by
  have q4 := hT.q4; have gq := hT.gq; have gh := hT.gh
  obtain ⟨rs, hV, ho, ha⟩ := hT.rows
  refine ⟨hT.b2.chg hc (.inl (by omega)), hT.b3.chg hc (.inl (by omega)), hT.b4.chg hc (.inl (by omega)), hT.b5.chg hc (.inl (by omega)), q4, hT.b8.chg hc (.inl gq), gq, hi, gh, hT.b9.chg hc (.inr (by omega)), ?_, below_chg hT.be hc hT.be.size (by omega)⟩
  exact ⟨rs, hV, (ho.chg hc (.inr (by omega))).more hc.size, (ha.chg hc (.inr (by omega))).more (Nat.le_refl _) hc.size⟩
/-- A tile is appended. -/
theorem TB.push {w0 W W' : World} {es : List Nd} {A A' : Option Addr} {c c' m q g h : Nat} {V v' : Value} {cs : List Int} {out : List Ti} {rs : List Rt} {r : Rt} {y : Ti} (hT : TB w0 W es A A' c c' m q g h V cs out) (ho : OK Rt.enc 4 77 W (h + 1) W.heap.size V rs) (ha : AllOk W (h + 1) W.heap.size rs out) (hr : RtOk W (h + 1) W.heap.size r y)
    (hown : W'.ownsRow (h + 1) 77 4 v' (out.length + 1) (rs.flatMap Rt.enc ++ r.enc)) (hg : W.grownBy W' V.ownBlock) : TB w0 (W'.setCell ⟨q, 0, none⟩ v') es A A' c c' m q g h v' cs (out ++ [y]) := by
  have q4 := hT.q4; have gq := hT.gq; have gh := hT.gh
  have hlo := ho.lo
  have nb : ∀ b, b ≤ h → V.ownBlock ≠ some b := fun b hb e => by have := (hlo b e).1; omega
  have hz := hT.b9.lt
  have bx : ∀ {b : Nat} {t : TypeId} {v : Value}, b ≤ h → b ≠ q → BX W b t v → BX (W'.setCell ⟨q, 0, none⟩ v') b t v := fun h1 h2 hb => (hb.kept hg (nb _ h1)).other 0 v' (Ne.symm h2)
  obtain ⟨ga, ca, rfl⟩ := ownsRow_succ hown
  have hc : Chg q (q + 1) W' (W'.setCell ⟨q, 0, none⟩ (.slice (some ⟨ga, 0, none⟩) (out.length + 1) ca)) := (Chg.refl q (q + 1) W').setCell (p := ⟨q, 0, none⟩) ⟨Nat.le_refl _, Nat.lt_succ_self _⟩ _
  refine ⟨bx (by omega) (by omega) hT.b2, bx (by omega) (by omega) hT.b3, bx (by omega) (by omega) hT.b4, bx (by omega) (by omega) hT.b5, q4, (hT.b8.kept hg (nb _ (by omega))).set _, gq, ?_, gh, bx (Nat.le_refl _) (by omega) hT.b9, ?_, ?_⟩
  · exact IB.other ((hg.block g hT.ib.lt (fun e => nb g (by omega) e.symm)).trans hT.ib) 0 _ (by omega)
  · refine ⟨rs ++ [r], ⟨some ⟨ga, 0, none⟩, ca, by rw [List.length_append]; rfl⟩, ?_, ?_⟩
    · have hO : OK Rt.enc 4 77 W' (h + 1) W'.heap.size (.slice (some ⟨ga, 0, none⟩) (out.length + 1) ca) (rs ++ [r]) := by
        refine ⟨?_, fun jj hjj => (hown.lt jj hjj).2⟩
        rw [rtflat_snoc, List.length_append, ha.1]; exact hown
      exact (hO.chg hc (.inr (by omega))).more hc.size
    · have hA : AllOk W' (h + 1) W.heap.size (rs ++ [r]) (out ++ [y]) := (ha.grown ho.1 hg).snoc (hr.grown ho.1 hg)
      exact (hA.chg hc (.inr (by omega))).more (Nat.le_refl _) (Nat.le_trans hg.size hc.size)
  · exact below_chg (hT.be.grown hg hT.be.size (fun k e => by have := (hlo k e).1; omega)) hc (Nat.le_trans hT.be.size hg.size) (by omega)

theorem keeps_below {n Bs : Nat} {t : TypeId} {W W' : World} (hb : Below W.heap.size W W') (hn : n ≤ W.heap.size) : KeepsOthers W W' ∧ KpB n Bs t W W' :=
  ⟨⟨hb.size, fun k o hk _ => (hb.block k (Array.getElem?_eq_some_iff.1 hk).1).trans hk⟩, hb.mono hn, fun v h => h.next hb⟩
theorem keeps_lay {n Bs g : Nat} {t : TypeId} {W W' : World} {cs : List Int} (hi : IB W g 3 cs) (hc : Chg g (g + 1) W W') (hn : n ≤ g) (hB : g < Bs) : KeepsOthers W W' ∧ KpB n Bs t W W' := by
  refine ⟨⟨hc.size, fun k o hk ho => ?_⟩, below_chg (Below.refl n W) hc (by have := hi.lt; omega) hn, fun v h => h.chg hc (.inr hB)⟩
  have hne : k ≠ g := by
    intro e
    subst e
    rw [show W.heap[k]? = some (.cells (intCells cs) 3 (0, 0)) from hi] at hk
    injection hk with hk; subst hk; cases ho
  exact (hc.block k (Array.getElem?_eq_some_iff.1 hk).1 (by omega)).trans hk
theorem own_ne_bx {w : World} {base size m b : Nat} {e t : TypeId} {v u : Value} {xs : List Value} (h : w.ownsRow base e size v m xs) (hb : BX w b t u) (hne : e ≠ t) : v.ownBlock ≠ some b := by
  intro hv
  rcases h.2 with ⟨rfl, _⟩ | ⟨g, cap, cur, rfl, _, hh, _⟩
  · simp [Value.ownBlock] at hv
  · have e1 : g = b := by simpa [Value.ownBlock] using hv
    subst e1
    unfold BX at hb
    rw [hh] at hb
    injection hb with hb
    injection hb with _ h9
    exact hne h9
theorem keeps_push {n Bs q base m : Nat} {W W' : World} {V v' : Value} {xs : List Value} (ho : W.ownsRow base 77 4 V m xs) (hg : W.grownBy W' V.ownBlock) (hb : n ≤ base) (hs : n ≤ W.heap.size) (hq : n ≤ q) (hqB : q ≠ Bs) : KeepsOthers W (W'.setCell ⟨q, 0, none⟩ v') ∧ KpB n Bs 27 W (W'.setCell ⟨q, 0, none⟩ v') := by
  have hrow : ∀ (j : Nat) (o : Obj), V.ownBlock = some j → W.heap[j]? = some o → o.isCells = true := by
    intro j o hj hh
    rcases ho.2 with ⟨rfl, _⟩ | ⟨g, cap, cur, rfl, _, hgg, _⟩
    · simp [Value.ownBlock] at hj
    · have e1 : g = j := by simpa [Value.ownBlock] using hj
      subst e1
      rw [hgg] at hh; injection hh with hh; subst hh; rfl
  refine ⟨(KeepsOthers.of_grownBy hg hrow).trans (KeepsOthers.setCell _ _ _), ?_, fun v h => (h.kept hg (own_ne_bx ho h (by decide))).other 0 v' hqB⟩
  exact ((Below.refl n W).grown hg hs (fun k e => Nat.le_trans hb (ho.lt k e).1)).setCell (p := ⟨q, 0, none⟩) hq v'

theorem AllOk.keptO {w w' : World} {L B : Nat} {rs : List Rt} {ts : List Ti} {row : Option Nat} (h : AllOk w L B rs ts) (hg : w.grownBy w' row) (hr : ∀ r, row = some r → ∃ o : Obj, w.heap[r]? = some o ∧ o.isCells = false) : AllOk w' L B rs ts := ⟨h.1, fun k h1 h2 => (h.2 k h1 h2).keptO hg hr⟩
/-- What is handed back lies when the function's record of deferred calls is put down. -/
theorem cover_ends {w W : World} {D lo : Nat} {V : Value} {rs : List Rt} {o : Option (List Ti)} (hn : w.heap.size ≤ lo) (hK : W.heap[D]? = some (.deferred (some []))) (hD : w.heap.size ≤ D)
    (hO : OK Rt.enc 4 77 W lo W.heap.size V rs) (hA : AllOk W lo W.heap.size rs (o.getD [])) (hbe : Below w.heap.size w W) :
    ∃ A c rs, V = .slice A (o.getD []).length c ∧ RS Rt.enc 4 (W.putObj D (.deferred none)) w.heap.size (W.putObj D (.deferred none)).heap.size A rs ∧ AllOk (W.putObj D (.deferred none)) w.heap.size (W.putObj D (.deferred none)).heap.size rs (o.getD []) ∧ Below w.heap.size w (W.putObj D (.deferred none)) := by
  have gr := grownBy_putObj' W D (.deferred none)
  have rD : ∀ r, some D = some r → ∃ o : Obj, W.heap[r]? = some o ∧ o.isCells = false := fun r e => by cases e; exact ⟨_, hK, rfl⟩
  have hO' : OK Rt.enc 4 77 (W.putObj D (.deferred none)) lo W.heap.size V rs := ⟨hO.1.kept gr (own_not hO.1 rD), hO.2⟩
  obtain ⟨A, c, hV, hRS⟩ := OK.form (enc := Rt.enc) (k := 4) (fun _ => rfl) hO'
  have hl : rs.length = (o.getD []).length := hA.1
  exact ⟨A, c, rs, by rw [← hl]; exact hV, hRS.more hn gr.size, ⟨hA.1, fun k h1 h2 => ((hA.2 k h1 h2).keptO gr rD).more hn gr.size⟩, hbe.grown gr hbe.size (fun k e => by cases e; exact hD)⟩
theorem firstI_eq {xs ys : List Int} {n : Nat} (hx : xs.length = n) (hy : ys.length = n) : decide (firstI (neI xs ys) n < 0) = decide (xs = ys) := by
  rw [decide_eq_decide, firstI_neg]
  constructor
  · intro h
    refine List.ext_getElem (by omega) fun i h1 h2 => ?_
    have := h i (by omega)
    simp only [neI, bne_eq_false_iff_eq] at this
    rwa [getD_get h1, getD_get h2] at this
  · rintro rfl i hi
    simp [neI]
set_option maxHeartbeats 4000000 in
theorem tilesOfCover_go (L B L' B' : Nat) (A A' : Option Addr) (c c' : Nat) (es : List Nd) (nums : List Int) (w : World) (ht : treeR es = true) (hlen : nums.length = es.length) (hes : NS w L B A es) (hB : B ≤ w.heap.size) (hn : IS w L' B' A' nums) (hB' : B' ≤ w.heap.size) :
    Calls Try.prog 139 #[.slice A es.length c, .slice A' es.length c'] w (CoverGot w (tocR es nums)) := by
  have hg : good es = true := by unfold treeR at ht; simp only [Bool.and_eq_true] at ht; exact ht.1
  obtain ⟨hl1, hl24, hok⟩ := good_len hg
  have hl : es.length ≤ 1048576 := by omega
  have HT := Lib.hid fun (W : World) (hW : Below w.heap.size w W) => iIsTree_any L B A c es W hl (hes.below hW hB) (Nat.le_trans hB hW.size)
  have HO := Lib.hid fun (W : World) => openCover_any A c es.length W hl1 hl24
  rw [ht] at HT
  have hn0 := hn
  obtain ⟨nb, no, rfl, ⟨_, hnb⟩, hnc⟩ := hn (by omega)
  have hISn := Lib.hid hn0
  have hBn := Lib.hid hB'
  have hLn := Lib.hid hlen
  have hnbw : nb < w.heap.size := by omega
  have hNC := Lib.hid hnc
  clear hnc hnb hn hB' hn0
  obtain ⟨W4, hW4⟩ : ∃ W4, W4 = ((((w.alloc (.cells #[.slice A es.length c] 27)).alloc (.cells #[.slice (some ⟨nb, no, none⟩) es.length c'] 23)).alloc (.cells #[.slice none 0 0] 74)).alloc (.cells #[.bool false] 4)) := ⟨_, rfl⟩
  have z1 := World.size_alloc w (.cells #[.slice A es.length c] 27)
  have z2 := World.size_alloc (w.alloc (.cells #[.slice A es.length c] 27)) (.cells #[.slice (some ⟨nb, no, none⟩) es.length c'] 23)
  have z3 := World.size_alloc ((w.alloc (.cells #[.slice A es.length c] 27)).alloc (.cells #[.slice (some ⟨nb, no, none⟩) es.length c'] 23)) (.cells #[.slice none 0 0] 74)
  have z4 : W4.heap.size = w.heap.size + 1 + 1 + 1 + 1 := by rw [hW4, World.size_alloc, z3, z2, z1]
  have B4 : Below w.heap.size w W4 := by rw [hW4]; exact ((((Below.refl _ w).alloc (Nat.le_refl _) _).alloc (by omega) _).alloc (by omega) _).alloc (by omega) _
  have k2 : BX W4 w.heap.size 27 (.slice A es.length c) := by rw [hW4]; exact (((BX.new w _ _).al _).al _).al _
  have k3 : BX W4 (w.heap.size + 1) 23 (.slice (some ⟨nb, no, none⟩) es.length c') := by
    rw [hW4]; have h := ((BX.new (w.alloc (.cells #[.slice A es.length c] 27)) 23 (.slice (some ⟨nb, no, none⟩) es.length c')).al (.cells #[.slice none 0 0] 74)).al (.cells #[.bool false] 4)
    rw [z1] at h; exact h
  have k4 : BX W4 (w.heap.size + 1 + 1) 74 (.slice none 0 0) := by
    rw [hW4]; have h := (BX.new ((w.alloc (.cells #[.slice A es.length c] 27)).alloc (.cells #[.slice (some ⟨nb, no, none⟩) es.length c'] 23)) 74 (.slice none 0 0)).al (.cells #[.bool false] 4)
    rw [z2, z1] at h; exact h
  have k5 : BX W4 (w.heap.size + 1 + 1 + 1) 4 (.bool false) := by
    rw [hW4]; have h := BX.new (((w.alloc (.cells #[.slice A es.length c] 27)).alloc (.cells #[.slice (some ⟨nb, no, none⟩) es.length c'] 23)).alloc (.cells #[.slice none 0 0] 74)) 4 (.bool false)
    rw [z3, z2, z1] at h; exact h
  have hW4h := Lib.hid hW4.symm
  have B4h := Lib.hid B4
  have K2 := Lib.hid k2
  have K3 := Lib.hid k3
  have K4 := Lib.hid k4
  have K5 := Lib.hid k5
  have Z4 := Lib.hid z4
  clear z1 z2 z3 z4 hW4 B4 k2 k3 k4 k5
  obtain ⟨i0, hi', hz0, hz1, hz2⟩ := info_parts Try.infoTile
  have hJ0 := Lib.hid hi'
  have hJ1 := Lib.hid hz0
  have hJ2 := Lib.hid hz1
  have hJ3 := Lib.hid hz2
  clear hi' hz0 hz1 hz2
  refine (callsIn_wide (n := 6)).1 ?_
  refine callsIn_of_wp_marks Try.func139 rfl trivial ?_ rfl
  simp only [Try.ntmps139, List.size_toArray, List.length_cons, List.length_nil, Nat.reduceAdd, Nat.reduceSub, Array.replicate_succ, Array.replicate_zero, List.push_toArray, List.append_toArray, List.nil_append, List.cons_append]
  gi_wp2
  rw [hW4h.out]
  refine ⟨trivial, callsIn_wide.2 ((HT.out _ B4h.out).mono ?_)⟩
  rintro e W5 ⟨rfl, hb5⟩
  have B5 := Lib.hid (B4h.out.trans (hb5.mono B4h.out.size))
  have P2 := Lib.hid (K2.out.next hb5)
  have P3 := Lib.hid (K3.out.next hb5)
  have P4 := Lib.hid (K4.out.next hb5)
  have P5 := Lib.hid (K5.out.next hb5)
  have Z5 := Lib.hid (show w.heap.size + 1 + 1 + 1 + 1 ≤ W5.heap.size by have := Z4.out; have := hb5.size; omega)
  have m2 := P2.out.cell
  have m3 := P3.out.cell
  clear hb5 K2 K3 K4 K5 Z4 B4h hW4h
  have s2 : w.heap.size < W5.heap.size := by have := Z5.out; omega
  have s3 : w.heap.size + 1 < W5.heap.size := by have := Z5.out; omega
  have z6 := World.size_alloc W5 (.cells #[.slice none 0 0] 74)
  have a6 := (Below.refl W5.heap.size W5).alloc (Nat.le_refl _) (.cells #[.slice none 0 0] 74)
  have P8 := Lib.hid (BX.new W5 74 (.slice none 0 0))
  have Q2 := Lib.hid (P2.out.next a6)
  have Q3 := Lib.hid (P3.out.next a6)
  have Q4 := Lib.hid (P4.out.next a6)
  have Q5 := Lib.hid (P5.out.next a6)
  have B6 := Lib.hid (B5.out.trans (a6.mono B5.out.size))
  have Z6 := Lib.hid z6
  clear a6 P2 P3 P4 P5 B5 z6
  gi_wp2
  obtain ⟨W6, hW6⟩ : ∃ W6, W6 = W5.alloc (.cells #[.slice none 0 0] 74) := ⟨_, rfl⟩
  obtain ⟨q, hq⟩ : ∃ q, q = W5.heap.size := ⟨_, rfl⟩
  rw [← hW6]
  rw [← hW6, ← hq] at P8
  rw [← hW6] at Q2 Q3 Q4 Q5 B6
  rw [← hW6, ← hq] at Z6
  have Zq := Lib.hid (show w.heap.size + 1 + 1 + 1 < q by have := Z5.out; omega)
  try rw [← hq]
  clear hW6 hq Z5 s2 s3 m2 m3
  refine ⟨trivial, callsIn_wide.2 ((HO.out W6).mono ?_)⟩
  rintro e W7 ⟨g, rfl, hg7, hib, hb7⟩
  have I7 := Lib.hid hib
  have R2 := Lib.hid (Q2.out.next hb7)
  have R3 := Lib.hid (Q3.out.next hb7)
  have R4 := Lib.hid (Q4.out.next hb7)
  have R5 := Lib.hid (Q5.out.next hb7)
  have R8 := Lib.hid (P8.out.next hb7)
  have B7 := Lib.hid (B6.out.trans (hb7.mono B6.out.size))
  have Zg := Lib.hid (show q < g by have := Z6.out; omega)
  have hgl := hib.lt
  have m2 := R2.out.cell
  have s2 : w.heap.size < W7.heap.size := R2.out.lt
  clear hib hb7 hg7 Q2 Q3 Q4 Q5 P8 B6 Z6 HT HO
  gi_wp2
  have z8 := World.size_alloc W7 (.cells #[.slice (some ⟨g, 0, none⟩) es.length es.length] 23)
  have a8 := (Below.refl W7.heap.size W7).alloc (Nat.le_refl _) (.cells #[.slice (some ⟨g, 0, none⟩) es.length es.length] 23)
  have S9 := Lib.hid (BX.new W7 23 (.slice (some ⟨g, 0, none⟩) es.length es.length))
  have S2 := Lib.hid (R2.out.next a8)
  have S3 := Lib.hid (R3.out.next a8)
  have S4 := Lib.hid (R4.out.next a8)
  have S5 := Lib.hid (R5.out.next a8)
  have S8 := Lib.hid (R8.out.next a8)
  have I8 := Lib.hid (I7.out.below a8 hgl)
  have B8 := Lib.hid (B7.out.trans (a8.mono B7.out.size))
  obtain ⟨W8, hW8⟩ : ∃ W8, W8 = W7.alloc (.cells #[.slice (some ⟨g, 0, none⟩) es.length es.length] 23) := ⟨_, rfl⟩
  obtain ⟨h, hh⟩ : ∃ h, h = W7.heap.size := ⟨_, rfl⟩
  rw [← hW8, ← hh]
  rw [← hW8, ← hh] at S9 z8
  rw [← hW8] at S2 S3 S4 S5 S8 I8 B8
  have Zh := Lib.hid (show g < h by omega)
  have Z8 := Lib.hid z8
  clear a8 R2 R3 R4 R5 R8 I7 B7 hW8 hh m2 s2 hgl z8
  refine ⟨trivial, (bw_in Fence.wide 5 trivial rfl A es.length c W8).mono ?_⟩
  rintro e W9 ⟨rfl, rfl⟩
  have a9 := (Below.refl W8.heap.size W8).alloc (Nat.le_refl _) (.cells #[.slice A es.length c] 27)
  have T9 := Lib.hid (S9.out.next a9)
  have T2 := Lib.hid (S2.out.next a9)
  have T3 := Lib.hid (S3.out.next a9)
  have T4 := Lib.hid (S4.out.next a9)
  have T5 := Lib.hid (S5.out.next a9)
  have T8 := Lib.hid (S8.out.next a9)
  have I9 := Lib.hid (I8.out.below a9 I8.out.lt)
  have B9 := Lib.hid (B8.out.trans (a9.mono B8.out.size))
  have TB9 := Lib.hid (BX.new W8 27 (.slice A es.length c))
  have hes9 := Lib.hid (hes.below B9.out hB)
  have Zb := Lib.hid (show h < W8.heap.size by have := Z8.out; omega)
  obtain ⟨Bs, hBs⟩ : ∃ Bs, Bs = W8.heap.size := ⟨_, rfl⟩
  obtain ⟨W9, hW9⟩ : ∃ W9, W9 = W8.alloc (.cells #[.slice A es.length c] 27) := ⟨_, rfl⟩
  rw [← hBs, ← hW9]
  rw [← hW9] at T9 T2 T3 T4 T5 T8 I9 B9 hes9 TB9
  rw [← hBs] at Zb TB9
  clear a9 S2 S3 S4 S5 S8 S9 I8 B8 hW9 hBs Z8
  gi_wp2
  refine wpIn_rangeFunc_ownF rfl (by omega) (gf := 163) (lb := #[.pointer (some ⟨Bs, 0, none⟩)]) rfl trivial (enters_of Try.func163 (by kernel_rfl) rfl)
    (bw_stops Fence.wide 5 trivial rfl (by omega) Bs w.heap.size L B A c es hl hl1 W9 B9.out.size TB9.out hes9.out hB) KpB.t (KpB.b B9.out.size) (Below.refl _ _) (fun _ => rfl)
    (fun pre W => ∃ cs out V, stF es nums pre = some (cs, out) ∧ TB w W es A (some ⟨nb, no, none⟩) c c' es.length q g h V cs out)
    (fun cd pre W => cd = .ret ∧ stF es nums pre = none ∧ BX W (w.heap.size + 1 + 1) 74 (.slice none 0 0) ∧ BX W (w.heap.size + 1 + 1 + 1) 4 (.bool false) ∧ Below w.heap.size w W)
    ?hI ?hIx ?h0 ?a1 ?assign ?body ?done ?stop
  case assign =>
    intro l x W K hK
    gi_wp2
    exact hK
  case hI =>
    rintro pre W W' row ⟨cs, out, V, hst, hTB⟩ hg hr
    exact ⟨cs, out, V, hst, hTB.kept hg (fun r e => ⟨Nat.le_trans B9.out.size (hr r e).1, (hr r e).2⟩)⟩
  case hIx =>
    rintro cd pre W W' row ⟨hcd, hst, k4, k5, hbe⟩ hg hr
    have hr' : ∀ r, row = some r → ∃ o : Obj, W.heap[r]? = some o ∧ o.isCells = false := fun r e => (hr r e).2
    exact ⟨hcd, hst, k4.kept hg (row_not k4 hr'), k5.kept hg (row_not k5 hr'), hbe.grown hg hbe.size (fun k e => Nat.le_trans B9.out.size (hr k e).1)⟩
  case h0 =>
    exact ⟨_, _, _, stF_nil es nums, T2.out, T3.out, T4.out, T5.out, Zq.out, T8.out, Zg.out, I9.out, Zh.out, T9.out, ⟨[], ⟨none, 0, rfl⟩, OK.nil _ _ _ _, ⟨rfl, fun k h1 _ => absurd h1 (Nat.not_lt_zero _)⟩⟩, B9.out⟩
  case body =>
    rintro l pre x W ⟨cs, out, V, hst, hTB⟩ hpl
    obtain ⟨⟨k, nd⟩, hk⟩ := x
    have hk' : k < es.length := hk
    have hsl := stF_len pre hst
    have hslh := Lib.hid hsl
    have hgW : g < W.heap.size := hTB.ib.lt
    have hghW := Lib.hid (show h + 1 ≤ W.heap.size from hTB.b9.lt)
    have hgh' := Lib.hid hTB.gh
    have hq4' := Lib.hid hTB.q4
    have hgq' := Lib.hid hTB.gq
    have hki : (k : Int) < (es.length : Int) := by omega
    have hk0 : (0 : Int) ≤ (k : Int) := by omega
    have y9 := hTB.b9.cell
    have yg := hTB.ib.cell k (by omega)
    rw [show cs[k]'(by omega) = cs.getD k 0 from (getD_get (by omega)).symm] at yg
    by_cases hc : cs.getD k 0 = -2
    rotate_left
    · have hN := Lib.hid (stF_skip hst ⟨(k, nd), hk⟩ hc)
      have hTBh := Lib.hid hTB
      have hcb : (cs.getD k 0 != -2) = true := by simpa using hc
      clear hTB hst hsl
      generalize cs.getD k 0 = xk at *
      gi_wp2
      exact ⟨KeepsOthers.refl _, ⟨Below.refl _ _, fun _ h => h⟩, ⟨cs, out, V, hN.out, hTBh.out⟩⟩
    rw [hc] at yg
    have hB0 := Lib.hid hTB.be
    have hzW := hTB.be.size
    have l2 : w.heap.size < W.heap.size := hTB.b2.lt
    have l3 : w.heap.size + 1 < W.heap.size := hTB.b3.lt
    have ln : nb < W.heap.size := by omega
    have y2 := hTB.b2.cell
    have y3 := hTB.b3.cell
    have yn := ((hTB.be.cell (p := ⟨nb, no + k, none⟩) hnbw)).trans (hNC.out k (by omega))
    rw [show nums[k]'(by omega) = nums.getD k 0 from (getD_get (by omega)).symm] at yn
    have hTo := Lib.hid fun (W' : World) (hW' : Below w.heap.size w W') => tileOf_any L B A c es (k : Int) (nums.getD k 0) W' hl (hes.below hW' hB) (Nat.le_trans hB hW'.size)
    cases ho : tOf es (k : Int) (nums.getD k 0) with
    | none =>
      have hN := Lib.hid (stF_fail hst ⟨(k, nd), hk⟩ hc ho)
      rw [ho] at hTo
      generalize nums.getD k 0 = tk at *
      have hTBh := Lib.hid hTB
      clear hTB hst hc ho
      gi_wp2
      have hBa := Lib.hid (hB0.out.drew.alloc hB0.out.size (.cells #[.int .i64 0, .slice none 0 0, .slice none 0 0, .int .i64 0] 77))
      -- REGION 9 NONE
      have hBd := Lib.hid hB0.out.drew
      have d2 := y2
      have d3 := y3
      have dn := yn
      refine region_round (S := fun w' => w'.cell? ⟨w.heap.size, 0, none⟩ = some (.slice A es.length c) ∧ w'.cell? ⟨w.heap.size + 1, 0, none⟩ = some (.slice (some ⟨nb, no, none⟩) es.length c') ∧ w'.cell? ⟨nb, no + k, none⟩ = some (.int .i64 tk)) (by kernel_rfl) (by kernel_rfl) (fun _ _ h => h) ⟨d2, d3, dn⟩ (fun hHeld => ?_)
      refine wpAnyH_take (i := 0) (v := ?_) rfl (by kernel_rfl) (by kernel_rfl) (by kernel_rfl) (fun _ _ _ h => h) (Or.inl ⟨by rfl, ?_⟩) (by assumption) ?_
      rotate_left 1
      · (intro w hSw; (try dsimp only at hSw); go_simp; try with_reducible rfl)
      try simp only [Act.put, List.setIfInBounds_toArray, List.set_cons_zero, List.set_cons_succ]
      refine wpAnyH_take (i := 1) (v := ?_) rfl (by kernel_rfl) (by kernel_rfl) (by kernel_rfl) (fun _ _ _ h => h) (Or.inl ⟨by rfl, ?_⟩) (by assumption) ?_
      rotate_left 1
      · (intro w hSw; (try dsimp only at hSw); go_simp; try with_reducible rfl)
      try simp only [Act.put, List.setIfInBounds_toArray, List.set_cons_zero, List.set_cons_succ]
      refine wpAnyH_take (i := 2) (v := ?_) rfl (by kernel_rfl) (by kernel_rfl) (by kernel_rfl) (fun _ _ _ h => h) (Or.inl ⟨by rfl, ?_⟩) (by assumption) ?_
      rotate_left 1
      · (intro w hSw; (try dsimp only at hSw); go_simp; try with_reducible rfl)
      try simp only [Act.put, List.setIfInBounds_toArray, List.set_cons_zero, List.set_cons_succ]
      refine wpAnyH_take (i := 3) (v := ?_) rfl (by kernel_rfl) (by kernel_rfl) (by kernel_rfl) (fun _ _ _ h => h) (Or.inl ⟨by rfl, ?_⟩) (by assumption) ?_
      rotate_left 1
      · (intro w hSw; (try dsimp only at hSw); go_simp; try with_reducible rfl)
      try simp only [Act.put, List.setIfInBounds_toArray, List.set_cons_zero, List.set_cons_succ]
      refine wpAnyH_take (i := 4) (v := ?_) rfl (by kernel_rfl) (by kernel_rfl) (by kernel_rfl) (fun _ _ _ h => h) (Or.inl ⟨by rfl, ?_⟩) (by assumption) ?_
      rotate_left 1
      · (intro w hSw; (try dsimp only at hSw); go_simp; try with_reducible rfl)
      try simp only [Act.put, List.setIfInBounds_toArray, List.set_cons_zero, List.set_cons_succ]
      refine wpAnyH_take (i := 5) (v := ?_) rfl (by kernel_rfl) (by kernel_rfl) (by kernel_rfl) (fun _ _ _ h => h) (Or.inl ⟨by rfl, ?_⟩) (by assumption) ?_
      rotate_left 1
      · (intro w hSw; (try dsimp only at hSw); go_simp; try with_reducible rfl)
      try simp only [Act.put, List.setIfInBounds_toArray, List.set_cons_zero, List.set_cons_succ]
      refine wpAnyH_ready (rs := [6, 10]) (by kernel_rfl) (by simp) ?_
      refine AllReadyH.cons rfl (fun K hK => ?_) (AllReadyH.cons rfl (fun K hK => ?_) AllReadyH.nil)
      · try simp only [List.getElem_toArray, List.getElem_cons_zero, List.getElem_cons_succ]
        go_simp
        go_at_call 137
        refine (hTo.out _ hBd.out).mono ?_
        rintro e w2 ⟨r, rfl, hr, hb2⟩
        dsimp only [Option.getD_some, Option.isSome_some] at hr ⊢
        obtain ⟨PA, pc, QA, qc, rfl, hp, hq⟩ := hr.form
        dsimp only
        have l2w : w.heap.size < w2.heap.size := Nat.lt_of_lt_of_le l2 hb2.size
        have l3w : w.heap.size + 1 < w2.heap.size := Nat.lt_of_lt_of_le l3 hb2.size
        have lnw : nb < w2.heap.size := Nat.lt_of_lt_of_le ln hb2.size
        have e2 := (hb2.cell (p := ⟨w.heap.size, 0, none⟩) l2).trans d2
        have e3 := (hb2.cell (p := ⟨w.heap.size + 1, 0, none⟩) l3).trans d3
        have en := (hb2.cell (p := ⟨nb, no + k, none⟩) ln).trans dn
        refine hK.out _ _ ⟨e2, e3, en⟩ (fun hHeld => ?_)
        clear hK K
        try simp only [Act.put, List.setIfInBounds_toArray, List.set_cons_zero, List.set_cons_succ]
        refine wpAnyH_take (i := 7) (v := ?_) rfl (by kernel_rfl) (by kernel_rfl) (by kernel_rfl) (fun _ _ _ h => h) (Or.inl ⟨by rfl, ?_⟩) (by assumption) ?_
        rotate_left 1
        · (intro w hSw; (try dsimp only at hSw); go_simp; try with_reducible rfl)
        try simp only [Act.put, List.setIfInBounds_toArray, List.set_cons_zero, List.set_cons_succ]
        refine wpAnyH_take (i := 8) (v := ?_) rfl (by kernel_rfl) (by kernel_rfl) (by kernel_rfl) (fun _ _ _ h => h) (Or.inl ⟨by rfl, ?_⟩) (by assumption) ?_
        rotate_left 1
        · (intro w hSw; (try dsimp only at hSw); go_simp; try with_reducible rfl)
        try simp only [Act.put, List.setIfInBounds_toArray, List.set_cons_zero, List.set_cons_succ]
        refine wpAnyH_take (i := 9) (v := ?_) rfl (by kernel_rfl) (by kernel_rfl) (by kernel_rfl) (fun _ _ _ h => h) (Or.inl ⟨by rfl, ?_⟩) (by assumption) ?_
        rotate_left 1
        · (intro w hSw; (try dsimp only at hSw); go_simp; try with_reducible rfl)
        try simp only [Act.put, List.setIfInBounds_toArray, List.set_cons_zero, List.set_cons_succ]
        refine wpAnyH_ready (rs := [10]) (by kernel_rfl) (by simp) ?_
        refine AllReadyH.cons rfl (fun K hK => ?_) AllReadyH.nil
        try simp only [List.getElem_toArray, List.getElem_cons_zero, List.getElem_cons_succ]
        go_simp
        have a3 := (Below.refl w2.heap.size w2).alloc (Nat.le_refl _) (.cells #[.int .i64 0, .slice none 0 0, .slice none 0 0, .int .i64 0] 77)
        refine hK.out _ _ ⟨(a3.cell (p := ⟨w.heap.size, 0, none⟩) l2w).trans e2, (a3.cell (p := ⟨w.heap.size + 1, 0, none⟩) l3w).trans e3, (a3.cell (p := ⟨nb, no + k, none⟩) lnw).trans en⟩ (fun hHeld => ?_)
        clear hK K
        try simp only [Act.put, List.setIfInBounds_toArray, List.set_cons_zero, List.set_cons_succ]
        refine wpAnyH_ready (rs := [11]) (by kernel_rfl) (by simp) ?_
        refine AllReadyH.cons rfl (fun K hK => ?_) AllReadyH.nil
        try simp only [List.getElem_toArray, List.getElem_cons_zero, List.getElem_cons_succ]
        go_simp
        have a4 := (Below.refl w2.heap.size w2).alloc (Nat.le_refl _) (.cells #[.int .i64 noTi.num, .slice PA noTi.ps.length pc, .slice QA noTi.ins.length qc, .int .i64 noTi.c] 77)
        refine hK.out _ _ ⟨(a4.cell (p := ⟨w.heap.size, 0, none⟩) l2w).trans e2, (a4.cell (p := ⟨w.heap.size + 1, 0, none⟩) l3w).trans e3, (a4.cell (p := ⟨nb, no + k, none⟩) lnw).trans en⟩ (fun hHeld => ?_)
        clear hK K
        try simp only [Act.put, List.setIfInBounds_toArray, List.set_cons_zero, List.set_cons_succ]
        refine wpAnyH_take (i := 12) (v := ?_) rfl (by kernel_rfl) (by kernel_rfl) (by kernel_rfl) (fun _ _ _ h => h) (Or.inl ⟨by rfl, ?_⟩) (by assumption) ?_
        rotate_left 1
        · (intro w hSw; (try dsimp only at hSw); go_simp; try with_reducible rfl)
        try simp only [Act.put, List.setIfInBounds_toArray, List.set_cons_zero, List.set_cons_succ]
        refine wpAnyH_done (by kernel_rfl) ?_ _
        dsimp only [OnlyN]
        have hX := TX.new (w := w2) (g := w2.heap.size) (⟨noTi.num, .slice PA noTi.ps.length pc, .slice QA noTi.ins.length qc, noTi.c⟩ : Rt) rfl
        have hBe : Below W.heap.size W (w2.alloc (.cells #[.int .i64 noTi.num, .slice PA noTi.ps.length pc, .slice QA noTi.ins.length qc, .int .i64 noTi.c] 77)) := (show Below W.heap.size W w2 from ⟨hb2.os, hb2.tape, hb2.output, hb2.size, hb2.block⟩).trans (a4.mono hb2.size)
        have hR := (hr.below a4 (Nat.le_refl _)).more (show W.heap.size ≤ W.drew.heap.size from Nat.le_refl _) a4.size
        have hpz : W.heap.size ≤ w2.heap.size := hb2.size
        dsimp only at hX
        obtain ⟨p, hp0⟩ : ∃ p, p = w2.heap.size := ⟨_, rfl⟩
        obtain ⟨w3, hw3⟩ : ∃ w3, w3 = w2.alloc (.cells #[.int .i64 noTi.num, .slice PA noTi.ps.length pc, .slice QA noTi.ins.length qc, .int .i64 noTi.c] 77) := ⟨_, rfl⟩
        rw [← hw3, ← hp0] at hX
        rw [← hw3] at hBe hR
        rw [← hp0] at hpz
        rw [← hw3, ← hp0]
        clear hw3 hp0 a3 a4 hb2 hp hq hr e2 e3 en d2 d3 dn hHeld
        try simp only [Act.put, List.getElem_toArray, List.getElem_cons_zero, List.getElem_cons_succ, List.setIfInBounds_toArray, List.set_cons_zero, List.set_cons_succ]
        have hT3 := hTBh.out.below hBe
        have u4 := hT3.b4.cell
        have u5 := hT3.b5.cell
        have v4 := hT3.b4.fz
        have v5 := hT3.b5.fz
        have hk3 := keeps_below (n := w.heap.size) (Bs := Bs) (t := 27) hBe hB0.out.size
        have hT3h := Lib.hid hT3
        have hk3h := Lib.hid hk3
        clear hT3 hk3 hBe hR hX
        gi_wp2
        exact ⟨(hk3h.out.1.trans (KeepsOthers.setCell _ _ _)).trans (KeepsOthers.setCell _ _ _), rfl, hN.out, (hT3h.out.b4.set _).other 0 _ (by omega), (hT3h.out.b5.other 0 _ (by omega)).set _, (hT3h.out.be.setCell (p := ⟨w.heap.size + 1 + 1, 0, none⟩) (show w.heap.size ≤ w.heap.size + 1 + 1 by omega) _).setCell (p := ⟨w.heap.size + 1 + 1 + 1, 0, none⟩) (show w.heap.size ≤ w.heap.size + 1 + 1 + 1 by omega) _⟩
      · try simp only [List.getElem_toArray, List.getElem_cons_zero, List.getElem_cons_succ]
        go_simp
        have aB := (Below.refl W.drew.heap.size W.drew).alloc (Nat.le_refl _) (.cells #[.int .i64 0, .slice none 0 0, .slice none 0 0, .int .i64 0] 77)
        have hNB := TX.new (w := W.drew) (g := W.heap.size) zeroRt rfl
        have l2b := (aB.cell (p := ⟨w.heap.size, 0, none⟩) l2).trans d2
        have l3b := (aB.cell (p := ⟨w.heap.size + 1, 0, none⟩) l3).trans d3
        have lnb := (aB.cell (p := ⟨nb, no + k, none⟩) ln).trans dn
        have zB : (W.drew.alloc (.cells #[.int .i64 0, .slice none 0 0, .slice none 0 0, .int .i64 0] 77)).heap.size = W.heap.size + 1 := World.size_alloc _ _
        refine hK.out _ _ ⟨l2b, l3b, lnb⟩ (fun hHeld => ?_)
        clear hK K
        try simp only [Act.put, List.setIfInBounds_toArray, List.set_cons_zero, List.set_cons_succ]
        refine wpAnyH_ready (rs := [6]) (by kernel_rfl) (by simp) ?_
        refine AllReadyH.cons rfl (fun K hK => ?_) AllReadyH.nil
        try simp only [List.getElem_toArray, List.getElem_cons_zero, List.getElem_cons_succ]
        go_simp
        go_at_call 137
        refine (hTo.out _ hBa.out).mono ?_
        rintro e w2 ⟨r, rfl, hr, hb2⟩
        dsimp only [Option.getD_some, Option.isSome_some] at hr ⊢
        obtain ⟨PA, pc, QA, qc, rfl, hp, hq⟩ := hr.form
        dsimp only
        have hb3 : Below (W.heap.size + 1) (W.drew.alloc (.cells #[.int .i64 0, .slice none 0 0, .slice none 0 0, .int .i64 0] 77)) w2 := by rw [← zB]; exact hb2
        have l2w : w.heap.size < W.heap.size + 1 := by omega
        have l3w : w.heap.size + 1 < W.heap.size + 1 := by omega
        have lnw : nb < W.heap.size + 1 := by omega
        have e2 := (hb3.cell (p := ⟨w.heap.size, 0, none⟩) l2w).trans l2b
        have e3 := (hb3.cell (p := ⟨w.heap.size + 1, 0, none⟩) l3w).trans l3b
        have en := (hb3.cell (p := ⟨nb, no + k, none⟩) lnw).trans lnb
        have hT4 : TX w2 W.heap.size zeroRt := CB.below hNB hb3 (Nat.lt_succ_self _)
        have q0 := (TX.cells hT4).1
        have q1 := (TX.cells hT4).2.1
        have q2 := (TX.cells hT4).2.2.1
        have q3 := (TX.cells hT4).2.2.2
        have f0 := (TX.fz hT4).1
        have f1 := (TX.fz hT4).2.1
        have f2 := (TX.fz hT4).2.2.1
        have f3 := (TX.fz hT4).2.2.2
        refine hK.out _ _ ⟨e2, e3, en⟩ (fun hHeld => ?_)
        clear hK K
        try simp only [Act.put, List.setIfInBounds_toArray, List.set_cons_zero, List.set_cons_succ]
        refine wpAnyH_take (i := 7) (v := ?_) rfl (by kernel_rfl) (by kernel_rfl) (by kernel_rfl) (fun _ _ _ h => h) (Or.inl ⟨by rfl, ?_⟩) (by assumption) ?_
        rotate_left 1
        · (intro w hSw; (try dsimp only at hSw); go_simp; try with_reducible rfl)
        try simp only [Act.put, List.setIfInBounds_toArray, List.set_cons_zero, List.set_cons_succ]
        refine wpAnyH_take (i := 8) (v := ?_) rfl (by kernel_rfl) (by kernel_rfl) (by kernel_rfl) (fun _ _ _ h => h) (Or.inl ⟨by rfl, ?_⟩) (by assumption) ?_
        rotate_left 1
        · (intro w hSw; (try dsimp only at hSw); go_simp; try with_reducible rfl)
        try simp only [Act.put, List.setIfInBounds_toArray, List.set_cons_zero, List.set_cons_succ]
        refine wpAnyH_take (i := 9) (v := ?_) rfl (by kernel_rfl) (by kernel_rfl) (by kernel_rfl) (fun _ _ _ h => h) (Or.inl ⟨by rfl, ?_⟩) (by assumption) ?_
        rotate_left 1
        · (intro w hSw; (try dsimp only at hSw); go_simp; try with_reducible rfl)
        try simp only [Act.put, List.setIfInBounds_toArray, List.set_cons_zero, List.set_cons_succ]
        refine wpAnyH_ready (rs := [11]) (by kernel_rfl) (by simp) ?_
        refine AllReadyH.cons rfl (fun K hK => ?_) AllReadyH.nil
        try simp only [List.getElem_toArray, List.getElem_cons_zero, List.getElem_cons_succ]
        go_simp
        have a5 := below_put4t (Below.refl W.heap.size w2) (Nat.le_refl _) (⟨noTi.num, .slice PA noTi.ps.length pc, .slice QA noTi.ins.length qc, noTi.c⟩ : Rt)
        refine hK.out _ _ ⟨(a5.cell (p := ⟨w.heap.size, 0, none⟩) l2).trans e2, (a5.cell (p := ⟨w.heap.size + 1, 0, none⟩) l3).trans e3, (a5.cell (p := ⟨nb, no + k, none⟩) ln).trans en⟩ (fun hHeld => ?_)
        clear hK K
        try simp only [Act.put, List.setIfInBounds_toArray, List.set_cons_zero, List.set_cons_succ]
        refine wpAnyH_take (i := 12) (v := ?_) rfl (by kernel_rfl) (by kernel_rfl) (by kernel_rfl) (fun _ _ _ h => h) (Or.inl ⟨by rfl, ?_⟩) (by assumption) ?_
        rotate_left 1
        · (intro w hSw; (try dsimp only at hSw); go_simp; try with_reducible rfl)
        try simp only [Act.put, List.setIfInBounds_toArray, List.set_cons_zero, List.set_cons_succ]
        refine wpAnyH_done (by kernel_rfl) ?_ _
        dsimp only [OnlyN]
        have hX := TX.put hT4 (⟨noTi.num, .slice PA noTi.ps.length pc, .slice QA noTi.ins.length qc, noTi.c⟩ : Rt)
        have hBe : Below W.heap.size W (put4t w2 W.heap.size (⟨noTi.num, .slice PA noTi.ps.length pc, .slice QA noTi.ins.length qc, noTi.c⟩ : Rt)) := ((show Below W.heap.size W (W.drew.alloc (.cells #[.int .i64 0, .slice none 0 0, .slice none 0 0, .int .i64 0] 77)) from ⟨aB.os, aB.tape, aB.output, aB.size, aB.block⟩).trans (hb3.mono (Nat.le_succ _))).trans a5
        have c5 : Chg W.heap.size (W.heap.size + 1) w2 (put4t w2 W.heap.size (⟨noTi.num, .slice PA noTi.ps.length pc, .slice QA noTi.ins.length qc, noTi.c⟩ : Rt)) := ((((Chg.refl _ _ w2).setCell (p := ⟨W.heap.size, 0, none⟩) ⟨Nat.le_refl _, Nat.lt_succ_self _⟩ _).setCell (p := ⟨W.heap.size, 1, none⟩) ⟨Nat.le_refl _, Nat.lt_succ_self _⟩ _).setCell (p := ⟨W.heap.size, 2, none⟩) ⟨Nat.le_refl _, Nat.lt_succ_self _⟩ _).setCell (p := ⟨W.heap.size, 3, none⟩) ⟨Nat.le_refl _, Nat.lt_succ_self _⟩ _
        have hR := ((hr.chg c5 (.inr (Nat.le_of_eq zB.symm))).more (L' := W.heap.size) (by rw [zB]; exact Nat.le_succ _) c5.size)
        have hpz : W.heap.size ≤ W.heap.size := Nat.le_refl _
        obtain ⟨w3, hw3⟩ : ∃ w3, w3 = put4t w2 W.heap.size (⟨noTi.num, .slice PA noTi.ps.length pc, .slice QA noTi.ins.length qc, noTi.c⟩ : Rt) := ⟨_, rfl⟩
        rw [← hw3] at hBe hR hX
        show Exit.then _ _ _ _ (put4t w2 W.heap.size (⟨noTi.num, .slice PA noTi.ps.length pc, .slice QA noTi.ins.length qc, noTi.c⟩ : Rt))
        rw [← hw3]
        clear hw3 a5 c5 aB hNB zB hb2 hb3 hp hq hr e2 e3 en d2 d3 dn hHeld l2b l3b lnb hT4 q0 q1 q2 q3 f0 f1 f2 f3
        try simp only [Act.put, List.getElem_toArray, List.getElem_cons_zero, List.getElem_cons_succ, List.setIfInBounds_toArray, List.set_cons_zero, List.set_cons_succ]
        have hT3 := hTBh.out.below hBe
        have u4 := hT3.b4.cell
        have u5 := hT3.b5.cell
        have v4 := hT3.b4.fz
        have v5 := hT3.b5.fz
        have hk3 := keeps_below (n := w.heap.size) (Bs := Bs) (t := 27) hBe hB0.out.size
        have hT3h := Lib.hid hT3
        have hk3h := Lib.hid hk3
        clear hT3 hk3 hBe hR hX
        gi_wp2
        exact ⟨(hk3h.out.1.trans (KeepsOthers.setCell _ _ _)).trans (KeepsOthers.setCell _ _ _), rfl, hN.out, (hT3h.out.b4.set _).other 0 _ (by omega), (hT3h.out.b5.other 0 _ (by omega)).set _, (hT3h.out.be.setCell (p := ⟨w.heap.size + 1 + 1, 0, none⟩) (show w.heap.size ≤ w.heap.size + 1 + 1 by omega) _).setCell (p := ⟨w.heap.size + 1 + 1 + 1, 0, none⟩) (show w.heap.size ≤ w.heap.size + 1 + 1 + 1 by omega) _⟩
      all_goals skip
    | some y =>
      have hN := Lib.hid (stF_lay hst ⟨(k, nd), hk⟩ hc ho)
      rw [ho] at hTo
      have hps := Lib.hid (tOf_ps ho)
      generalize nums.getD k 0 = tk at *
      have hTBh := Lib.hid hTB
      clear hTB hst hc ho
      gi_wp2
      have hBa := Lib.hid (hB0.out.drew.alloc hB0.out.size (.cells #[.int .i64 0, .slice none 0 0, .slice none 0 0, .int .i64 0] 77))
      -- REGION 9 SOME
      have hBd := Lib.hid hB0.out.drew
      have d2 := y2
      have d3 := y3
      have dn := yn
      refine region_round (S := fun w' => w'.cell? ⟨w.heap.size, 0, none⟩ = some (.slice A es.length c) ∧ w'.cell? ⟨w.heap.size + 1, 0, none⟩ = some (.slice (some ⟨nb, no, none⟩) es.length c') ∧ w'.cell? ⟨nb, no + k, none⟩ = some (.int .i64 tk)) (by kernel_rfl) (by kernel_rfl) (fun _ _ h => h) ⟨d2, d3, dn⟩ (fun hHeld => ?_)
      refine wpAnyH_take (i := 0) (v := ?_) rfl (by kernel_rfl) (by kernel_rfl) (by kernel_rfl) (fun _ _ _ h => h) (Or.inl ⟨by rfl, ?_⟩) (by assumption) ?_
      rotate_left 1
      · (intro w hSw; (try dsimp only at hSw); go_simp; try with_reducible rfl)
      try simp only [Act.put, List.setIfInBounds_toArray, List.set_cons_zero, List.set_cons_succ]
      refine wpAnyH_take (i := 1) (v := ?_) rfl (by kernel_rfl) (by kernel_rfl) (by kernel_rfl) (fun _ _ _ h => h) (Or.inl ⟨by rfl, ?_⟩) (by assumption) ?_
      rotate_left 1
      · (intro w hSw; (try dsimp only at hSw); go_simp; try with_reducible rfl)
      try simp only [Act.put, List.setIfInBounds_toArray, List.set_cons_zero, List.set_cons_succ]
      refine wpAnyH_take (i := 2) (v := ?_) rfl (by kernel_rfl) (by kernel_rfl) (by kernel_rfl) (fun _ _ _ h => h) (Or.inl ⟨by rfl, ?_⟩) (by assumption) ?_
      rotate_left 1
      · (intro w hSw; (try dsimp only at hSw); go_simp; try with_reducible rfl)
      try simp only [Act.put, List.setIfInBounds_toArray, List.set_cons_zero, List.set_cons_succ]
      refine wpAnyH_take (i := 3) (v := ?_) rfl (by kernel_rfl) (by kernel_rfl) (by kernel_rfl) (fun _ _ _ h => h) (Or.inl ⟨by rfl, ?_⟩) (by assumption) ?_
      rotate_left 1
      · (intro w hSw; (try dsimp only at hSw); go_simp; try with_reducible rfl)
      try simp only [Act.put, List.setIfInBounds_toArray, List.set_cons_zero, List.set_cons_succ]
      refine wpAnyH_take (i := 4) (v := ?_) rfl (by kernel_rfl) (by kernel_rfl) (by kernel_rfl) (fun _ _ _ h => h) (Or.inl ⟨by rfl, ?_⟩) (by assumption) ?_
      rotate_left 1
      · (intro w hSw; (try dsimp only at hSw); go_simp; try with_reducible rfl)
      try simp only [Act.put, List.setIfInBounds_toArray, List.set_cons_zero, List.set_cons_succ]
      refine wpAnyH_take (i := 5) (v := ?_) rfl (by kernel_rfl) (by kernel_rfl) (by kernel_rfl) (fun _ _ _ h => h) (Or.inl ⟨by rfl, ?_⟩) (by assumption) ?_
      rotate_left 1
      · (intro w hSw; (try dsimp only at hSw); go_simp; try with_reducible rfl)
      try simp only [Act.put, List.setIfInBounds_toArray, List.set_cons_zero, List.set_cons_succ]
      refine wpAnyH_ready (rs := [6, 10]) (by kernel_rfl) (by simp) ?_
      refine AllReadyH.cons rfl (fun K hK => ?_) (AllReadyH.cons rfl (fun K hK => ?_) AllReadyH.nil)
      · try simp only [List.getElem_toArray, List.getElem_cons_zero, List.getElem_cons_succ]
        go_simp
        go_at_call 137
        refine (hTo.out _ hBd.out).mono ?_
        rintro e w2 ⟨r, rfl, hr, hb2⟩
        dsimp only [Option.getD_some, Option.isSome_some] at hr ⊢
        obtain ⟨PA, pc, QA, qc, rfl, hp, hq⟩ := hr.form
        dsimp only
        have l2w : w.heap.size < w2.heap.size := Nat.lt_of_lt_of_le l2 hb2.size
        have l3w : w.heap.size + 1 < w2.heap.size := Nat.lt_of_lt_of_le l3 hb2.size
        have lnw : nb < w2.heap.size := Nat.lt_of_lt_of_le ln hb2.size
        have e2 := (hb2.cell (p := ⟨w.heap.size, 0, none⟩) l2).trans d2
        have e3 := (hb2.cell (p := ⟨w.heap.size + 1, 0, none⟩) l3).trans d3
        have en := (hb2.cell (p := ⟨nb, no + k, none⟩) ln).trans dn
        refine hK.out _ _ ⟨e2, e3, en⟩ (fun hHeld => ?_)
        clear hK K
        try simp only [Act.put, List.setIfInBounds_toArray, List.set_cons_zero, List.set_cons_succ]
        refine wpAnyH_take (i := 7) (v := ?_) rfl (by kernel_rfl) (by kernel_rfl) (by kernel_rfl) (fun _ _ _ h => h) (Or.inl ⟨by rfl, ?_⟩) (by assumption) ?_
        rotate_left 1
        · (intro w hSw; (try dsimp only at hSw); go_simp; try with_reducible rfl)
        try simp only [Act.put, List.setIfInBounds_toArray, List.set_cons_zero, List.set_cons_succ]
        refine wpAnyH_take (i := 8) (v := ?_) rfl (by kernel_rfl) (by kernel_rfl) (by kernel_rfl) (fun _ _ _ h => h) (Or.inl ⟨by rfl, ?_⟩) (by assumption) ?_
        rotate_left 1
        · (intro w hSw; (try dsimp only at hSw); go_simp; try with_reducible rfl)
        try simp only [Act.put, List.setIfInBounds_toArray, List.set_cons_zero, List.set_cons_succ]
        refine wpAnyH_take (i := 9) (v := ?_) rfl (by kernel_rfl) (by kernel_rfl) (by kernel_rfl) (fun _ _ _ h => h) (Or.inl ⟨by rfl, ?_⟩) (by assumption) ?_
        rotate_left 1
        · (intro w hSw; (try dsimp only at hSw); go_simp; try with_reducible rfl)
        try simp only [Act.put, List.setIfInBounds_toArray, List.set_cons_zero, List.set_cons_succ]
        refine wpAnyH_ready (rs := [10]) (by kernel_rfl) (by simp) ?_
        refine AllReadyH.cons rfl (fun K hK => ?_) AllReadyH.nil
        try simp only [List.getElem_toArray, List.getElem_cons_zero, List.getElem_cons_succ]
        go_simp
        have a3 := (Below.refl w2.heap.size w2).alloc (Nat.le_refl _) (.cells #[.int .i64 0, .slice none 0 0, .slice none 0 0, .int .i64 0] 77)
        refine hK.out _ _ ⟨(a3.cell (p := ⟨w.heap.size, 0, none⟩) l2w).trans e2, (a3.cell (p := ⟨w.heap.size + 1, 0, none⟩) l3w).trans e3, (a3.cell (p := ⟨nb, no + k, none⟩) lnw).trans en⟩ (fun hHeld => ?_)
        clear hK K
        try simp only [Act.put, List.setIfInBounds_toArray, List.set_cons_zero, List.set_cons_succ]
        refine wpAnyH_ready (rs := [11]) (by kernel_rfl) (by simp) ?_
        refine AllReadyH.cons rfl (fun K hK => ?_) AllReadyH.nil
        try simp only [List.getElem_toArray, List.getElem_cons_zero, List.getElem_cons_succ]
        go_simp
        have a4 := (Below.refl w2.heap.size w2).alloc (Nat.le_refl _) (.cells #[.int .i64 y.num, .slice PA y.ps.length pc, .slice QA y.ins.length qc, .int .i64 y.c] 77)
        refine hK.out _ _ ⟨(a4.cell (p := ⟨w.heap.size, 0, none⟩) l2w).trans e2, (a4.cell (p := ⟨w.heap.size + 1, 0, none⟩) l3w).trans e3, (a4.cell (p := ⟨nb, no + k, none⟩) lnw).trans en⟩ (fun hHeld => ?_)
        clear hK K
        try simp only [Act.put, List.setIfInBounds_toArray, List.set_cons_zero, List.set_cons_succ]
        refine wpAnyH_take (i := 12) (v := ?_) rfl (by kernel_rfl) (by kernel_rfl) (by kernel_rfl) (fun _ _ _ h => h) (Or.inl ⟨by rfl, ?_⟩) (by assumption) ?_
        rotate_left 1
        · (intro w hSw; (try dsimp only at hSw); go_simp; try with_reducible rfl)
        try simp only [Act.put, List.setIfInBounds_toArray, List.set_cons_zero, List.set_cons_succ]
        refine wpAnyH_done (by kernel_rfl) ?_ _
        dsimp only [OnlyN]
        have hX := TX.new (w := w2) (g := w2.heap.size) (⟨y.num, .slice PA y.ps.length pc, .slice QA y.ins.length qc, y.c⟩ : Rt) rfl
        have hBe : Below W.heap.size W (w2.alloc (.cells #[.int .i64 y.num, .slice PA y.ps.length pc, .slice QA y.ins.length qc, .int .i64 y.c] 77)) := (show Below W.heap.size W w2 from ⟨hb2.os, hb2.tape, hb2.output, hb2.size, hb2.block⟩).trans (a4.mono hb2.size)
        have hR := (hr.below a4 (Nat.le_refl _)).more (show W.heap.size ≤ W.drew.heap.size from Nat.le_refl _) a4.size
        have hpz : W.heap.size ≤ w2.heap.size := hb2.size
        dsimp only at hX
        obtain ⟨p, hp0⟩ : ∃ p, p = w2.heap.size := ⟨_, rfl⟩
        obtain ⟨w3, hw3⟩ : ∃ w3, w3 = w2.alloc (.cells #[.int .i64 y.num, .slice PA y.ps.length pc, .slice QA y.ins.length qc, .int .i64 y.c] 77) := ⟨_, rfl⟩
        rw [← hw3, ← hp0] at hX
        rw [← hw3] at hBe hR
        rw [← hp0] at hpz
        rw [← hw3, ← hp0]
        clear hw3 hp0 a3 a4 hb2 hp hq hr e2 e3 en d2 d3 dn hHeld
        try simp only [Act.put, List.getElem_toArray, List.getElem_cons_zero, List.getElem_cons_succ, List.setIfInBounds_toArray, List.set_cons_zero, List.set_cons_succ]
        have hT3 := hTBh.out.below hBe
        have u9 := hT3.b9.cell
        have q0 := (TX.cells hX).1
        have q1 := (TX.cells hX).2.1
        have q2 := (TX.cells hX).2.2.1
        have q3 := (TX.cells hX).2.2.2
        have hXlt : p < w3.heap.size := by rcases Nat.lt_or_ge p w3.heap.size with hh | hh; exact hh; exact absurd (show w3.heap[p]? = some _ from hX) (by rw [Array.getElem?_eq_none hh]; simp)
        have hLay := Lib.hid (layTile_any g es.length W.heap.size w3.heap.size k cs (⟨y.num, .slice PA y.ps.length pc, .slice QA y.ins.length qc, y.c⟩ : Rt) y w3 hslh.out.1 hk' hl24 hT3.ib hR (Nat.le_refl _) (.inl hgW) hps.out.1 hps.out.2.1)
        have hT3h := Lib.hid hT3
        have hBeh := Lib.hid hBe
        have hRh := Lib.hid hR
        have hXh := Lib.hid hX
        clear hT3 hBe hR hX
        gi_wp2
        refine ⟨trivial, (CallsIn.inRound l (callsIn_wide.2 hLay.out)).mono ?_⟩
        rintro e w4 ⟨rfl, hI4, hC4⟩
        have hk4 := Lib.hid (keeps_lay (n := w.heap.size) (Bs := Bs) (t := 27) hT3h.out.ib hC4 (by have := hq4'.out; have := hgq'.out; omega) (by have := hgh'.out; have := Zb.out; omega))
        have hT4 := hT3h.out.lay hC4 hI4
        have hX4 : TX w4 p (⟨y.num, .slice PA y.ps.length pc, .slice QA y.ins.length qc, y.c⟩ : Rt) := (hC4.block p hXlt (.inr (by omega))).trans hXh.out
        have r0 := (TX.cells hX4).1
        have r1 := (TX.cells hX4).2.1
        have r2 := (TX.cells hX4).2.2.1
        have r3 := (TX.cells hX4).2.2.2
        have u8 := hT4.b8.cell
        have hR4 := (hRh.out.chg hC4 (.inr (by omega))).more hghW.out hC4.size
        have z34 := hC4.size
        obtain ⟨rs, ⟨VA, vc, rfl⟩, hOK, hAll⟩ := hT4.rows
        have ba := (Below.refl w4.heap.size w4).alloc (Nat.le_refl _) (.cells #[.int .i64 y.num, .slice PA y.ps.length pc, .slice QA y.ins.length qc, .int .i64 y.c] 77)
        have hT5 := Lib.hid (hT4.below ba)
        have hO5 := Lib.hid ((hOK.below ba (Nat.le_refl _)).more ba.size)
        have hA5 := Lib.hid ((hAll.below ba (Nat.le_refl _)).more (Nat.le_refl _) ba.size)
        have hR5 := Lib.hid ((hR4.below ba (Nat.le_refl _)).more (Nat.le_refl _) ba.size)
        have hk5 := Lib.hid (keeps_below (n := w.heap.size) (Bs := Bs) (t := 27) ba hT4.be.size)
        have hrl : rs.length = out.length := hAll.1
        have hO6 := Lib.hid (show (w4.alloc (.cells #[.int .i64 y.num, .slice PA y.ps.length pc, .slice QA y.ins.length qc, .int .i64 y.c] 77)).ownsRow (h + 1) 77 4 (.slice VA out.length vc) out.length (rs.flatMap Rt.enc) from by have := hO5.out.1; rwa [hrl] at this)
        have hone := Lib.hid (rt_one hR4)
        have h24 : out.length + 1 ≤ 25 := by have := hslh.out.2; omega
        have zh : h + 1 ≤ w4.heap.size := by have := hghW.out; have := hBeh.out.size; omega
        have b8 := Lib.hid hT5.out.b8
        clear hT4 hOK hAll hR4 ba hrl hX4 hC4 hI4
        gi_wp2_with (gi_at_builtin; go_loud (refine wpListIn_append_own _ rfl _ _ 74 rfl (h + 1) 77 i0 _ 4 64 Try.underlying74 hJ0.out hJ1.out hJ2.out hJ3.out rfl (by decide) (.slice VA out.length vc) out.length _ rfl hO6.out ⟨w4.heap.size, 0, none⟩ 1 1 (Rt.enc (⟨y.num, .slice PA y.ps.length pc, .slice QA y.ins.length qc, y.c⟩ : Rt)) rfl rfl (four_ofs (r := (⟨y.num, .slice PA y.ps.length pc, .slice QA y.ins.length qc, y.c⟩ : Rt)) rfl) hone.out (by unfold maxLen; omega) (by omega) (by simp; omega) ?_); intro v' w5 hown hgr _; have hb8 := b8.out.kept hgr (fun e => by have := (hO6.out.lt q e).1; have := hgq'.out; have := hgh'.out; omega); have u85 := hb8.cell; have f85 := hb8.fz; obtain ⟨ga, ca, rfl⟩ := ownsRow_succ hown)
        have hFin := TB.push hT5.out hO5.out hA5.out hR5.out hown hgr
        have hk6 := keeps_push (n := w.heap.size) (Bs := Bs) (q := q) (v' := .slice (some ⟨ga, 0, none⟩) (out.length + 1) ca) hO6.out hgr (by have := hq4'.out; have := hgq'.out; have := hgh'.out; omega) hT5.out.be.size (by have := hq4'.out; omega) (by have := hgq'.out; have := hgh'.out; have := Zb.out; omega)
        have hk3 := keeps_below (n := w.heap.size) (Bs := Bs) (t := 27) hBeh.out hB0.out.size
        exact ⟨((hk3.1.trans hk4.out.1).trans hk5.out.1).trans hk6.1, ((hk3.2.t hk4.out.2).t hk5.out.2).t hk6.2, ⟨_, _, _, hN.out, hFin⟩⟩
      · try simp only [List.getElem_toArray, List.getElem_cons_zero, List.getElem_cons_succ]
        go_simp
        have aB := (Below.refl W.drew.heap.size W.drew).alloc (Nat.le_refl _) (.cells #[.int .i64 0, .slice none 0 0, .slice none 0 0, .int .i64 0] 77)
        have hNB := TX.new (w := W.drew) (g := W.heap.size) zeroRt rfl
        have l2b := (aB.cell (p := ⟨w.heap.size, 0, none⟩) l2).trans d2
        have l3b := (aB.cell (p := ⟨w.heap.size + 1, 0, none⟩) l3).trans d3
        have lnb := (aB.cell (p := ⟨nb, no + k, none⟩) ln).trans dn
        have zB : (W.drew.alloc (.cells #[.int .i64 0, .slice none 0 0, .slice none 0 0, .int .i64 0] 77)).heap.size = W.heap.size + 1 := World.size_alloc _ _
        refine hK.out _ _ ⟨l2b, l3b, lnb⟩ (fun hHeld => ?_)
        clear hK K
        try simp only [Act.put, List.setIfInBounds_toArray, List.set_cons_zero, List.set_cons_succ]
        refine wpAnyH_ready (rs := [6]) (by kernel_rfl) (by simp) ?_
        refine AllReadyH.cons rfl (fun K hK => ?_) AllReadyH.nil
        try simp only [List.getElem_toArray, List.getElem_cons_zero, List.getElem_cons_succ]
        go_simp
        go_at_call 137
        refine (hTo.out _ hBa.out).mono ?_
        rintro e w2 ⟨r, rfl, hr, hb2⟩
        dsimp only [Option.getD_some, Option.isSome_some] at hr ⊢
        obtain ⟨PA, pc, QA, qc, rfl, hp, hq⟩ := hr.form
        dsimp only
        have hb3 : Below (W.heap.size + 1) (W.drew.alloc (.cells #[.int .i64 0, .slice none 0 0, .slice none 0 0, .int .i64 0] 77)) w2 := by rw [← zB]; exact hb2
        have l2w : w.heap.size < W.heap.size + 1 := by omega
        have l3w : w.heap.size + 1 < W.heap.size + 1 := by omega
        have lnw : nb < W.heap.size + 1 := by omega
        have e2 := (hb3.cell (p := ⟨w.heap.size, 0, none⟩) l2w).trans l2b
        have e3 := (hb3.cell (p := ⟨w.heap.size + 1, 0, none⟩) l3w).trans l3b
        have en := (hb3.cell (p := ⟨nb, no + k, none⟩) lnw).trans lnb
        have hT4 : TX w2 W.heap.size zeroRt := CB.below hNB hb3 (Nat.lt_succ_self _)
        have q0 := (TX.cells hT4).1
        have q1 := (TX.cells hT4).2.1
        have q2 := (TX.cells hT4).2.2.1
        have q3 := (TX.cells hT4).2.2.2
        have f0 := (TX.fz hT4).1
        have f1 := (TX.fz hT4).2.1
        have f2 := (TX.fz hT4).2.2.1
        have f3 := (TX.fz hT4).2.2.2
        refine hK.out _ _ ⟨e2, e3, en⟩ (fun hHeld => ?_)
        clear hK K
        try simp only [Act.put, List.setIfInBounds_toArray, List.set_cons_zero, List.set_cons_succ]
        refine wpAnyH_take (i := 7) (v := ?_) rfl (by kernel_rfl) (by kernel_rfl) (by kernel_rfl) (fun _ _ _ h => h) (Or.inl ⟨by rfl, ?_⟩) (by assumption) ?_
        rotate_left 1
        · (intro w hSw; (try dsimp only at hSw); go_simp; try with_reducible rfl)
        try simp only [Act.put, List.setIfInBounds_toArray, List.set_cons_zero, List.set_cons_succ]
        refine wpAnyH_take (i := 8) (v := ?_) rfl (by kernel_rfl) (by kernel_rfl) (by kernel_rfl) (fun _ _ _ h => h) (Or.inl ⟨by rfl, ?_⟩) (by assumption) ?_
        rotate_left 1
        · (intro w hSw; (try dsimp only at hSw); go_simp; try with_reducible rfl)
        try simp only [Act.put, List.setIfInBounds_toArray, List.set_cons_zero, List.set_cons_succ]
        refine wpAnyH_take (i := 9) (v := ?_) rfl (by kernel_rfl) (by kernel_rfl) (by kernel_rfl) (fun _ _ _ h => h) (Or.inl ⟨by rfl, ?_⟩) (by assumption) ?_
        rotate_left 1
        · (intro w hSw; (try dsimp only at hSw); go_simp; try with_reducible rfl)
        try simp only [Act.put, List.setIfInBounds_toArray, List.set_cons_zero, List.set_cons_succ]
        refine wpAnyH_ready (rs := [11]) (by kernel_rfl) (by simp) ?_
        refine AllReadyH.cons rfl (fun K hK => ?_) AllReadyH.nil
        try simp only [List.getElem_toArray, List.getElem_cons_zero, List.getElem_cons_succ]
        go_simp
        have a5 := below_put4t (Below.refl W.heap.size w2) (Nat.le_refl _) (⟨y.num, .slice PA y.ps.length pc, .slice QA y.ins.length qc, y.c⟩ : Rt)
        refine hK.out _ _ ⟨(a5.cell (p := ⟨w.heap.size, 0, none⟩) l2).trans e2, (a5.cell (p := ⟨w.heap.size + 1, 0, none⟩) l3).trans e3, (a5.cell (p := ⟨nb, no + k, none⟩) ln).trans en⟩ (fun hHeld => ?_)
        clear hK K
        try simp only [Act.put, List.setIfInBounds_toArray, List.set_cons_zero, List.set_cons_succ]
        refine wpAnyH_take (i := 12) (v := ?_) rfl (by kernel_rfl) (by kernel_rfl) (by kernel_rfl) (fun _ _ _ h => h) (Or.inl ⟨by rfl, ?_⟩) (by assumption) ?_
        rotate_left 1
        · (intro w hSw; (try dsimp only at hSw); go_simp; try with_reducible rfl)
        try simp only [Act.put, List.setIfInBounds_toArray, List.set_cons_zero, List.set_cons_succ]
        refine wpAnyH_done (by kernel_rfl) ?_ _
        dsimp only [OnlyN]
        have hX := TX.put hT4 (⟨y.num, .slice PA y.ps.length pc, .slice QA y.ins.length qc, y.c⟩ : Rt)
        have hBe : Below W.heap.size W (put4t w2 W.heap.size (⟨y.num, .slice PA y.ps.length pc, .slice QA y.ins.length qc, y.c⟩ : Rt)) := ((show Below W.heap.size W (W.drew.alloc (.cells #[.int .i64 0, .slice none 0 0, .slice none 0 0, .int .i64 0] 77)) from ⟨aB.os, aB.tape, aB.output, aB.size, aB.block⟩).trans (hb3.mono (Nat.le_succ _))).trans a5
        have c5 : Chg W.heap.size (W.heap.size + 1) w2 (put4t w2 W.heap.size (⟨y.num, .slice PA y.ps.length pc, .slice QA y.ins.length qc, y.c⟩ : Rt)) := ((((Chg.refl _ _ w2).setCell (p := ⟨W.heap.size, 0, none⟩) ⟨Nat.le_refl _, Nat.lt_succ_self _⟩ _).setCell (p := ⟨W.heap.size, 1, none⟩) ⟨Nat.le_refl _, Nat.lt_succ_self _⟩ _).setCell (p := ⟨W.heap.size, 2, none⟩) ⟨Nat.le_refl _, Nat.lt_succ_self _⟩ _).setCell (p := ⟨W.heap.size, 3, none⟩) ⟨Nat.le_refl _, Nat.lt_succ_self _⟩ _
        have hR := ((hr.chg c5 (.inr (Nat.le_of_eq zB.symm))).more (L' := W.heap.size) (by rw [zB]; exact Nat.le_succ _) c5.size)
        have hpz : W.heap.size ≤ W.heap.size := Nat.le_refl _
        obtain ⟨w3, hw3⟩ : ∃ w3, w3 = put4t w2 W.heap.size (⟨y.num, .slice PA y.ps.length pc, .slice QA y.ins.length qc, y.c⟩ : Rt) := ⟨_, rfl⟩
        rw [← hw3] at hBe hR hX
        show Exit.then _ _ _ _ (put4t w2 W.heap.size (⟨y.num, .slice PA y.ps.length pc, .slice QA y.ins.length qc, y.c⟩ : Rt))
        rw [← hw3]
        clear hw3 a5 c5 aB hNB zB hb2 hb3 hp hq hr e2 e3 en d2 d3 dn hHeld l2b l3b lnb hT4 q0 q1 q2 q3 f0 f1 f2 f3
        try simp only [Act.put, List.getElem_toArray, List.getElem_cons_zero, List.getElem_cons_succ, List.setIfInBounds_toArray, List.set_cons_zero, List.set_cons_succ]
        have hT3 := hTBh.out.below hBe
        have u9 := hT3.b9.cell
        have q0 := (TX.cells hX).1
        have q1 := (TX.cells hX).2.1
        have q2 := (TX.cells hX).2.2.1
        have q3 := (TX.cells hX).2.2.2
        have hXlt : W.heap.size < w3.heap.size := by rcases Nat.lt_or_ge W.heap.size w3.heap.size with hh | hh; exact hh; exact absurd (show w3.heap[W.heap.size]? = some _ from hX) (by rw [Array.getElem?_eq_none hh]; simp)
        have hLay := Lib.hid (layTile_any g es.length W.heap.size w3.heap.size k cs (⟨y.num, .slice PA y.ps.length pc, .slice QA y.ins.length qc, y.c⟩ : Rt) y w3 hslh.out.1 hk' hl24 hT3.ib hR (Nat.le_refl _) (.inl hgW) hps.out.1 hps.out.2.1)
        have hT3h := Lib.hid hT3
        have hBeh := Lib.hid hBe
        have hRh := Lib.hid hR
        have hXh := Lib.hid hX
        clear hT3 hBe hR hX
        gi_wp2
        refine ⟨trivial, (CallsIn.inRound l (callsIn_wide.2 hLay.out)).mono ?_⟩
        rintro e w4 ⟨rfl, hI4, hC4⟩
        have hk4 := Lib.hid (keeps_lay (n := w.heap.size) (Bs := Bs) (t := 27) hT3h.out.ib hC4 (by have := hq4'.out; have := hgq'.out; omega) (by have := hgh'.out; have := Zb.out; omega))
        have hT4 := hT3h.out.lay hC4 hI4
        have hX4 : TX w4 W.heap.size (⟨y.num, .slice PA y.ps.length pc, .slice QA y.ins.length qc, y.c⟩ : Rt) := (hC4.block W.heap.size hXlt (.inr (by omega))).trans hXh.out
        have r0 := (TX.cells hX4).1
        have r1 := (TX.cells hX4).2.1
        have r2 := (TX.cells hX4).2.2.1
        have r3 := (TX.cells hX4).2.2.2
        have u8 := hT4.b8.cell
        have hR4 := (hRh.out.chg hC4 (.inr (by omega))).more hghW.out hC4.size
        have z34 := hC4.size
        obtain ⟨rs, ⟨VA, vc, rfl⟩, hOK, hAll⟩ := hT4.rows
        have ba := (Below.refl w4.heap.size w4).alloc (Nat.le_refl _) (.cells #[.int .i64 y.num, .slice PA y.ps.length pc, .slice QA y.ins.length qc, .int .i64 y.c] 77)
        have hT5 := Lib.hid (hT4.below ba)
        have hO5 := Lib.hid ((hOK.below ba (Nat.le_refl _)).more ba.size)
        have hA5 := Lib.hid ((hAll.below ba (Nat.le_refl _)).more (Nat.le_refl _) ba.size)
        have hR5 := Lib.hid ((hR4.below ba (Nat.le_refl _)).more (Nat.le_refl _) ba.size)
        have hk5 := Lib.hid (keeps_below (n := w.heap.size) (Bs := Bs) (t := 27) ba hT4.be.size)
        have hrl : rs.length = out.length := hAll.1
        have hO6 := Lib.hid (show (w4.alloc (.cells #[.int .i64 y.num, .slice PA y.ps.length pc, .slice QA y.ins.length qc, .int .i64 y.c] 77)).ownsRow (h + 1) 77 4 (.slice VA out.length vc) out.length (rs.flatMap Rt.enc) from by have := hO5.out.1; rwa [hrl] at this)
        have hone := Lib.hid (rt_one hR4)
        have h24 : out.length + 1 ≤ 25 := by have := hslh.out.2; omega
        have zh : h + 1 ≤ w4.heap.size := by have := hghW.out; have := hBeh.out.size; omega
        have b8 := Lib.hid hT5.out.b8
        clear hT4 hOK hAll hR4 ba hrl hX4 hC4 hI4
        gi_wp2_with (gi_at_builtin; go_loud (refine wpListIn_append_own _ rfl _ _ 74 rfl (h + 1) 77 i0 _ 4 64 Try.underlying74 hJ0.out hJ1.out hJ2.out hJ3.out rfl (by decide) (.slice VA out.length vc) out.length _ rfl hO6.out ⟨w4.heap.size, 0, none⟩ 1 1 (Rt.enc (⟨y.num, .slice PA y.ps.length pc, .slice QA y.ins.length qc, y.c⟩ : Rt)) rfl rfl (four_ofs (r := (⟨y.num, .slice PA y.ps.length pc, .slice QA y.ins.length qc, y.c⟩ : Rt)) rfl) hone.out (by unfold maxLen; omega) (by omega) (by simp; omega) ?_); intro v' w5 hown hgr _; have hb8 := b8.out.kept hgr (fun e => by have := (hO6.out.lt q e).1; have := hgq'.out; have := hgh'.out; omega); have u85 := hb8.cell; have f85 := hb8.fz; obtain ⟨ga, ca, rfl⟩ := ownsRow_succ hown)
        have hFin := TB.push hT5.out hO5.out hA5.out hR5.out hown hgr
        have hk6 := keeps_push (n := w.heap.size) (Bs := Bs) (q := q) (v' := .slice (some ⟨ga, 0, none⟩) (out.length + 1) ca) hO6.out hgr (by have := hq4'.out; have := hgq'.out; have := hgh'.out; omega) hT5.out.be.size (by have := hq4'.out; omega) (by have := hgq'.out; have := hgh'.out; have := Zb.out; omega)
        have hk3 := keeps_below (n := w.heap.size) (Bs := Bs) (t := 27) hBeh.out hB0.out.size
        exact ⟨((hk3.1.trans hk4.out.1).trans hk5.out.1).trans hk6.1, ((hk3.2.t hk4.out.2).t hk5.out.2).t hk6.2, ⟨_, _, _, hN.out, hFin⟩⟩
      all_goals skip -- some
  case done =>
    rintro D ys W hD rfl ⟨cs, out, V, hst, hTB⟩ hK
    rw [stF_upto] at hst
    have hlen' := cvSt_len hst
    have hE := Lib.hid (slEqual_any g (g + 1) L' B' (some ⟨g, 0, none⟩) (some ⟨nb, no, none⟩) es.length c' es.length cs nums W hl hlen'.1 hLn.out hTB.ib.toIS (hISn.out.below hTB.be hBn.out) hTB.ib.lt (Nat.le_trans hBn.out hTB.be.size))
    rw [firstI_eq hlen'.1 hLn.out] at hE
    have u9 := hTB.b9.cell
    have u3 := hTB.b3.cell
    obtain ⟨rs, ⟨VA, vc, rfl⟩, hOK, hAll⟩ := hTB.rows
    have hOKh := Lib.hid hOK
    have hAllh := Lib.hid hAll
    have hTBh := Lib.hid hTB
    have hsth := Lib.hid hst
    have hKh := Lib.hid hK
    clear hTB hst hK hOK hAll
    gi_wp2
    refine ⟨trivial, callsIn_wide.2 (hE.out.mono ?_)⟩
    rintro e W' ⟨rfl, hb⟩
    have hT := hTBh.out.below hb
    have hK2 : W'.heap[D]? = some (.deferred (some [])) := (hb.block D (Array.getElem?_eq_some_iff.1 hKh.out).1).trans hKh.out
    have hTh := Lib.hid hT
    have hK2h := Lib.hid hK2
    have v8 := hT.b8.cell
    have v4 := hT.b4.cell
    have v5 := hT.b5.cell
    have f4 := hT.b4.fz
    have f5 := hT.b5.fz
    clear hT hK2
    by_cases hq : cs = nums
    · rw [decide_eq_true hq]
      gi_wp2
      obtain ⟨W2, hW2⟩ : ∃ W2, W2 = (W'.setCell ⟨w.heap.size + 1 + 1, 0, none⟩ (.slice VA out.length vc)).setCell ⟨w.heap.size + 1 + 1 + 1, 0, none⟩ (.bool true) := ⟨_, rfl⟩
      rw [← hW2]
      have hT := hTh.out
      have q4 := hT.q4; have gq := hT.gq; have gh := hT.gh
      have g4 : BX W2 (w.heap.size + 1 + 1) 74 (.slice VA out.length vc) := by rw [hW2]; exact (hT.b4.set _).other 0 _ (by omega)
      have g5 : BX W2 (w.heap.size + 1 + 1 + 1) 4 (.bool true) := by rw [hW2]; exact (hT.b5.other 0 _ (by omega)).set _
      have hK3 : W2.heap[D]? = some (.deferred (some [])) := by rw [hW2]; exact ((KeepsOthers.setCell _ _ _).trans (KeepsOthers.setCell _ _ _)).same D _ hK2h.out rfl
      have hch : Chg (w.heap.size + 1 + 1) (w.heap.size + 1 + 1 + 1 + 1) W' W2 := by rw [hW2]; exact ((Chg.refl _ _ W').setCell (p := ⟨w.heap.size + 1 + 1, 0, none⟩) ⟨Nat.le_refl _, Nat.lt_succ_of_lt (Nat.lt_succ_self _)⟩ _).setCell (p := ⟨w.heap.size + 1 + 1 + 1, 0, none⟩) ⟨Nat.le_succ _, Nat.lt_succ_self _⟩ _
      have hO2 := ((hOKh.out.below hb (Nat.le_refl _)).more hb.size |>.chg hch (.inr (by omega))).more hch.size
      have hA2 := ((hAllh.out.below hb (Nat.le_refl _)).more (Nat.le_refl _) hb.size |>.chg hch (.inr (by omega))).more (Nat.le_refl _) hch.size
      have hb2 : Below w.heap.size w W2 := below_chg hT.be hch hT.be.size (by omega)
      have hto : tocR es nums = some out := by unfold tocR; rw [if_pos ⟨ht, hLn.out⟩, hsth.out]; simp only; rw [if_pos hq]
      have hDw : w.heap.size ≤ D := Nat.le_trans B9.out.size hD
      obtain ⟨A1, c1, rs1, hV, hR1, hA1, hB1⟩ := cover_ends (o := some out) (lo := h + 1) (by omega) hK3 hDw hO2 hA2 hb2
      have rD : ∀ r, some D = some r → ∃ o : Obj, W2.heap[r]? = some o ∧ o.isCells = false := fun r e => by cases e; exact ⟨_, hK3, rfl⟩
      have c4 := (g4.kept (grownBy_putObj' W2 D (.deferred none)) (row_not g4 rD)).cell
      have c5 := (g5.kept (grownBy_putObj' W2 D (.deferred none)) (row_not g5 rD)).cell
      rw [hto]
      rw [hV] at c4
      refine ⟨by simp, .inl ⟨_, _, rfl, run_takeDeferred hK3, ?_⟩⟩
      refine ⟨_, ?_, A1, c1, rs1, rfl, hR1, hA1, hB1⟩
      simp [results, Try.f139, go_sem, c4, c5]
    · rw [decide_eq_false hq]
      gi_wp2
      obtain ⟨W2, hW2⟩ : ∃ W2, W2 = (W'.setCell ⟨w.heap.size + 1 + 1, 0, none⟩ (.slice none 0 0)).setCell ⟨w.heap.size + 1 + 1 + 1, 0, none⟩ (.bool false) := ⟨_, rfl⟩
      rw [← hW2]
      have hT := hTh.out
      have g4 : BX W2 (w.heap.size + 1 + 1) 74 (.slice none 0 0) := by rw [hW2]; exact (hT.b4.set _).other 0 _ (by omega)
      have g5 : BX W2 (w.heap.size + 1 + 1 + 1) 4 (.bool false) := by rw [hW2]; exact (hT.b5.other 0 _ (by omega)).set _
      have hK3 : W2.heap[D]? = some (.deferred (some [])) := by rw [hW2]; exact ((KeepsOthers.setCell _ _ _).trans (KeepsOthers.setCell _ _ _)).same D _ hK2h.out rfl
      have hb2 : Below w.heap.size w W2 := by rw [hW2]; exact (hT.be.setCell (p := ⟨w.heap.size + 1 + 1, 0, none⟩) (show w.heap.size ≤ w.heap.size + 1 + 1 by omega) _).setCell (p := ⟨w.heap.size + 1 + 1 + 1, 0, none⟩) (show w.heap.size ≤ w.heap.size + 1 + 1 + 1 by omega) _
      have hto : tocR es nums = none := by unfold tocR; rw [if_pos ⟨ht, hLn.out⟩, hsth.out]; simp only; rw [if_neg hq]
      have hDw : w.heap.size ≤ D := Nat.le_trans B9.out.size hD
      obtain ⟨A1, c1, rs1, hV, hR1, hA1, hB1⟩ := cover_ends (o := none) (lo := w.heap.size) (Nat.le_refl _) hK3 hDw (OK.nil _ _ _ _) ⟨rfl, fun k h1 _ => absurd h1 (Nat.not_lt_zero _)⟩ hb2
      have rD : ∀ r, some D = some r → ∃ o : Obj, W2.heap[r]? = some o ∧ o.isCells = false := fun r e => by cases e; exact ⟨_, hK3, rfl⟩
      have c4 := (g4.kept (grownBy_putObj' W2 D (.deferred none)) (row_not g4 rD)).cell
      have c5 := (g5.kept (grownBy_putObj' W2 D (.deferred none)) (row_not g5 rD)).cell
      rw [hto]
      rw [hV] at c4
      refine ⟨by simp, .inl ⟨_, _, rfl, run_takeDeferred hK3, ?_⟩⟩
      refine ⟨_, ?_, A1, c1, rs1, rfl, hR1, hA1, hB1⟩
      simp [results, Try.f139, go_sem, c4, c5]
  case stop =>
    rintro D cd pre W hD ⟨k, hk, rfl⟩ ⟨rfl, hst, k4, k5, hbe⟩ hK
    rw [stF_upto] at hst
    have hsth := Lib.hid (cvSt_none hst es.length hk)
    clear hst
    gi_wp2
    have hto : tocR es nums = none := by unfold tocR; rw [if_pos ⟨ht, hLn.out⟩, hsth.out]
    have hDw : w.heap.size ≤ D := Nat.le_trans B9.out.size hD
    obtain ⟨A1, c1, rs1, hV, hR1, hA1, hB1⟩ := cover_ends (o := none) (lo := w.heap.size) (Nat.le_refl _) hK hDw (OK.nil _ _ _ _) ⟨rfl, fun k h1 _ => absurd h1 (Nat.not_lt_zero _)⟩ hbe
    have rD : ∀ r, some D = some r → ∃ o : Obj, W.heap[r]? = some o ∧ o.isCells = false := fun r e => by cases e; exact ⟨_, hK, rfl⟩
    have c4 := (k4.kept (grownBy_putObj' W D (.deferred none)) (row_not k4 rD)).cell
    have c5 := (k5.kept (grownBy_putObj' W D (.deferred none)) (row_not k5 rD)).cell
    rw [hto]
    rw [hV] at c4
    refine ⟨by simp, .inl ⟨_, _, rfl, run_takeDeferred hK, ?_⟩⟩
    refine ⟨_, ?_, A1, c1, rs1, rfl, hR1, hA1, hB1⟩
    simp [results, Try.f139, go_sem, c4, c5]
end Go.Proofs.Ytgcbfiamhpfkhaa

/- tilesOfCover of the program, at all arguments. -/
namespace Go.Proofs.Ytgcbfiamhpfkhaa
open Go.RowKit
set_option linter.unusedVariables false

set_option maxHeartbeats 4000000 in
theorem tilesOfCover_not (L B : Nat) (A A' : Option Addr) (c c' n : Nat) (es : List Nd) (w : World) (hl : es.length ≤ 1048576) (hn : n ≤ 1048576) (h : ¬ (treeR es = true ∧ n = es.length)) (hes : NS w L B A es) (hB : B ≤ w.heap.size) :
    Calls Try.prog 139 #[.slice A es.length c, .slice A' n c'] w (CoverGot w none) := by
  have HT := Lib.hid fun (W : World) (hW : Below w.heap.size w W) => iIsTree_any L B A c es W hl (hes.below hW hB) (Nat.le_trans hB hW.size)
  go_enter Try.func139, Try.ntmps139
  go_wp2_with (fail)
  obtain ⟨W4, hW4⟩ : ∃ W4, W4 = ((((w.alloc (.cells #[.slice A es.length c] 27)).alloc (.cells #[.slice A' n c'] 23)).alloc (.cells #[.slice none 0 0] 74)).alloc (.cells #[.bool false] 4)) := ⟨_, rfl⟩
  have z1 := World.size_alloc w (.cells #[.slice A es.length c] 27)
  have z2 := World.size_alloc (w.alloc (.cells #[.slice A es.length c] 27)) (.cells #[.slice A' n c'] 23)
  have z3 := World.size_alloc ((w.alloc (.cells #[.slice A es.length c] 27)).alloc (.cells #[.slice A' n c'] 23)) (.cells #[.slice none 0 0] 74)
  have z4 : W4.heap.size = w.heap.size + 1 + 1 + 1 + 1 := by rw [hW4, World.size_alloc, z3, z2, z1]
  have B4 : Below w.heap.size w W4 := by rw [hW4]; exact ((((Below.refl _ w).alloc (Nat.le_refl _) _).alloc (by omega) _).alloc (by omega) _).alloc (by omega) _
  have k2 : BX W4 w.heap.size 27 (.slice A es.length c) := by rw [hW4]; exact (((BX.new w _ _).al _).al _).al _
  have k3 : BX W4 (w.heap.size + 1) 23 (.slice A' n c') := by
    rw [hW4]; have h := ((BX.new (w.alloc (.cells #[.slice A es.length c] 27)) 23 (.slice A' n c')).al (.cells #[.slice none 0 0] 74)).al (.cells #[.bool false] 4)
    rw [z1] at h; exact h
  have k4 : BX W4 (w.heap.size + 1 + 1) 74 (.slice none 0 0) := by
    rw [hW4]; have h := (BX.new ((w.alloc (.cells #[.slice A es.length c] 27)).alloc (.cells #[.slice A' n c'] 23)) 74 (.slice none 0 0)).al (.cells #[.bool false] 4)
    rw [z2, z1] at h; exact h
  have k5 : BX W4 (w.heap.size + 1 + 1 + 1) 4 (.bool false) := by
    rw [hW4]; have h := BX.new (((w.alloc (.cells #[.slice A es.length c] 27)).alloc (.cells #[.slice A' n c'] 23)).alloc (.cells #[.slice none 0 0] 74)) 4 (.bool false)
    rw [z3, z2, z1] at h; exact h
  rw [← hW4]
  clear hW4 z1 z2 z3
  refine (HT.out _ B4).mono ?_
  rintro e W5 ⟨rfl, hb⟩
  have B5 := Lib.hid (B4.trans (hb.mono B4.size))
  have P4 := Lib.hid (k4.next hb)
  have P5 := Lib.hid (k5.next hb)
  have m2 := (k2.next hb).cell
  have m3 := (k3.next hb).cell
  have m4 := P4.out.cell
  have m5 := P5.out.cell
  have f4 := P4.out.fz
  have f5 := P5.out.fz
  clear B4 k2 k3 k4 k5 hb HT
  by_cases ht : treeR es = true
  · have hne : ¬ n = es.length := fun e => h ⟨ht, e⟩
    have hne2 : ((n : Int) != (es.length : Int)) = true := by simp; omega
    rw [ht]
    go_wp2
    all_goals
      have c4 := ((P4.out.set (.slice none 0 0)).other (q := w.heap.size + 1 + 1 + 1) 0 (.bool false) (by omega)).cell
      have c5 := ((P5.out.other (q := w.heap.size + 1 + 1) 0 (.slice none 0 0) (by omega)).set (.bool false)).cell
      refine ⟨rfl, _, (by simp [results, Try.f139, go_sem, c4, c5]; rfl), ?_⟩
      refine ⟨none, 0, [], rfl, fun h => absurd h (by simp), ⟨rfl, fun k h1 _ => absurd h1 (Nat.not_lt_zero _)⟩, ?_⟩
      exact (B5.out.setCell (p := ⟨w.heap.size + 1 + 1, 0, none⟩) (show w.heap.size ≤ w.heap.size + 1 + 1 by omega) _).setCell (p := ⟨w.heap.size + 1 + 1 + 1, 0, none⟩) (show w.heap.size ≤ w.heap.size + 1 + 1 + 1 by omega) _
  · have ht' : treeR es = false := by simpa using ht
    rw [ht']
    go_wp2
    all_goals
      have c4 := ((P4.out.set (.slice none 0 0)).other (q := w.heap.size + 1 + 1 + 1) 0 (.bool false) (by omega)).cell
      have c5 := ((P5.out.other (q := w.heap.size + 1 + 1) 0 (.slice none 0 0) (by omega)).set (.bool false)).cell
      refine ⟨rfl, _, (by simp [results, Try.f139, go_sem, c4, c5]; rfl), ?_⟩
      refine ⟨none, 0, [], rfl, fun h => absurd h (by simp), ⟨rfl, fun k h1 _ => absurd h1 (Nat.not_lt_zero _)⟩, ?_⟩
      exact (B5.out.setCell (p := ⟨w.heap.size + 1 + 1, 0, none⟩) (show w.heap.size ≤ w.heap.size + 1 + 1 by omega) _).setCell (p := ⟨w.heap.size + 1 + 1 + 1, 0, none⟩) (show w.heap.size ≤ w.heap.size + 1 + 1 + 1 by omega) _

/-- tilesOfCover at all arguments. -/
theorem tilesOfCover_any (L B L' B' : Nat) (A A' : Option Addr) (c c' : Nat) (es : List Nd) (nums : List Int) (w : World) (hl : es.length ≤ 1048576) (hn : nums.length ≤ 1048576) (hes : NS w L B A es) (hB : B ≤ w.heap.size) (hns : IS w L' B' A' nums) (hB' : B' ≤ w.heap.size) :
    Calls Try.prog 139 #[.slice A es.length c, .slice A' nums.length c'] w (CoverGot w (tocR es nums)) := by
  by_cases h : treeR es = true ∧ nums.length = es.length
  · have := tilesOfCover_go L B L' B' A A' c c' es nums w h.1 h.2 hes hB hns hB'
    rw [h.2]; exact this
  · have e : tocR es nums = none := by unfold tocR; rw [if_neg h]
    rw [e]
    exact tilesOfCover_not L B A A' c c' nums.length es w hl hn h hes hB
end Go.Proofs.Ytgcbfiamhpfkhaa

/- IsCover, CoverCost, TileUses of the program. -/
namespace Go.Proofs.Ytgcbfiamhpfkhaa
open Go.RowKit
set_option linter.unusedVariables false
set_option maxRecDepth 100000

set_option maxHeartbeats 4000000 in
theorem iIsCover_any (L B L' B' : Nat) (A A' : Option Addr) (c c' : Nat) (es : List Nd) (nums : List Int) (w : World) (hl : es.length ≤ 1048576) (hn : nums.length ≤ 1048576) (hes : NS w L B A es) (hB : B ≤ w.heap.size) (hns : IS w L' B' A' nums) (hB' : B' ≤ w.heap.size) :
    Calls Try.prog 135 #[.slice A es.length c, .slice A' nums.length c'] w fun e w' => e = .returned (.tuple #[.bool (tocR es nums).isSome, .bool (treeR es)]) ∧ Below w.heap.size w w' := by
  have H := Lib.hid (iIsTree_any L B A c es w hl hes hB)
  have H2 := Lib.hid fun (W : World) (hW : Below w.heap.size w W) => tilesOfCover_any L B L' B' A A' c c' es nums W hl hn (hes.below hW hB) (Nat.le_trans hB hW.size) (hns.below hW hB') (Nat.le_trans hB' hW.size)
  clear hes hB hns hB'
  cases ht : treeR es
  · have hR : Hid (tocR es nums = none) := by unfold Hid tocR; rw [if_neg (by rw [ht]; simp)]
    rw [ht] at H
    clear ht H2
    go_enter Try.func135, Try.ntmps135
    go_wp2_with (go_at_call 57; refine H.out.mono ?_; rintro e w1 ⟨rfl, hb1⟩; have hbh := Lib.hid hb1; clear hb1)
    go_ret2
    exact ⟨by rw [hR.out]; rfl, hbh.out⟩
  rw [ht] at H
  clear ht
  generalize tocR es nums = o at *
  go_enter Try.func135, Try.ntmps135
  go_wp2_with (first | (go_at_call 57; refine H.out.mono ?_; rintro e w1 ⟨rfl, hb1⟩; have hbh := Lib.hid hb1; clear hb1) | (go_at_call 139; refine (H2.out _ hbh.out).mono ?_; rintro e w2 ⟨PA, pc, rs, rfl, _, _, hb2⟩; have hbi := Lib.hid (hbh.out.trans (hb2.mono hbh.out.size)); clear hb2))
  go_ret2
  exact ⟨rfl, hbi.out⟩

set_option maxHeartbeats 4000000 in
theorem iCoverCost_any (L B L' B' : Nat) (A A' : Option Addr) (c c' : Nat) (es : List Nd) (nums : List Int) (w : World) (hl : es.length ≤ 1048576) (hn : nums.length ≤ 1048576) (hes : NS w L B A es) (hB : B ≤ w.heap.size) (hns : IS w L' B' A' nums) (hB' : B' ≤ w.heap.size) :
    Calls Try.prog 81 #[.slice A es.length c, .slice A' nums.length c'] w (IntRes w (ccostR es nums) (tocR es nums).isSome) := by
  have H2 := Lib.hid (tilesOfCover_any L B L' B' A A' c c' es nums w hl hn hes hB hns hB')
  clear hes hB hns hB'
  have hbd := Lib.hid (tocR_bd es nums)
  have hlen := Lib.hid (tocR_len' es nums)
  have hR : Hid (ccostR es nums = sumK ((tocR es nums).getD [])) := rfl
  generalize ccostR es nums = R at *
  generalize (tocR es nums) = o at *
  go_enter Try.func81, Try.ntmps81
  go_wp2_with (fail)
  refine H2.out.mono ?_
  rintro e w1 ⟨TA, tc, rs, rfl, hrs, hall, hb1⟩
  have hRS := Lib.hid hrs
  have hAL := Lib.hid hall
  have hBL := Lib.hid hb1
  clear hrs hall hb1 H2
  generalize o.isSome = ok at *
  generalize o.getD [] = ts at *
  go_wp2_with (fail)
  go_loopw [8, 19] (fun q i wr => ∃ k : Nat, k ≤ ts.length ∧ i = .int .i64 k ∧ q = .int .i64 (sumK (ts.take k)) ∧ Below w1.heap.size w1 wr) (fun _ i _ => ts.length - (intOf i).toNat)
  case atStart => exact ⟨0, Nat.zero_le _, rfl, rfl, Below.refl _ _⟩
  case round =>
    obtain ⟨k, hk, rfl, rfl, hbel⟩ := hrel
    have hBJ := Lib.hid hbel
    by_cases hlt : k < ts.length
    · have hki : (k : Int) < (ts.length : Int) := by omega
      have hlth := Lib.hid hlt
      have h24 := hlen.out
      have hkr : k < rs.length := by rw [hAL.out.1]; exact hlt
      have hok4 := (hAL.out.2 k hkr hlt).below hbel (Nat.le_refl _)
      obtain ⟨tb, to', rfl, ⟨_, htb⟩, hcc⟩ := (hRS.out.below hbel (Nat.le_refl _)) (by omega)
      have x1 := hcc k hkr 0 _ rfl
      have x2 := hcc k hkr 1 _ rfl
      have x3 := hcc k hkr 2 _ rfl
      have x4 := hcc k hkr 3 _ rfl
      simp only [Nat.add_zero] at x1
      have hS := sumK_take hbd.out hlen.out hlt
      generalize rs[k] = r at *
      obtain ⟨PA, pc, QA, qc, rfl, _, _⟩ := hok4.form
      dsimp only at x1 x2 x3 x4
      clear hcc hok4 hbel
      generalize ts[k] = x at *
      obtain ⟨xn, ps, ins, xc⟩ := x
      dsimp only at x1 x2 x3 x4 hS
      unfold TiB at hS
      dsimp only at hS
      have hS2 := Lib.hid hS.1
      have hw : IntKind.i64.wrap (sumK (ts.take k) + xc) = sumK (ts.take k) + xc := by rw [IntKind.wrap_i64]; omega
      generalize sumK (ts.take k) = s at *
      clear hS
      have hbx := Lib.hid (hBJ.out.alloc hBJ.out.size (.cells #[.int .i64 xn, .slice PA ps.length pc, .slice QA ins.length qc, .int .i64 xc] 77))
      go_wp2
      go_roundw
      case rel => exact ⟨k + 1, hlth.out, by go_num, by rw [hS2.out], hbx.out⟩
      case measure => have := hlth.out; simp [intOf]; omega
    · obtain rfl : k = ts.length := by omega
      have hB3 := Lib.hid (hBL.out.trans (hbel.mono hBL.out.size))
      rw [List.take_length] at *
      go_wp2
      go_ret2
      exact ⟨by rw [hR.out]; rfl, hB3.out⟩

theorem len13 : usesL [] = zeros 13 := usesL_nil
end Go.Proofs.Ytgcbfiamhpfkhaa
