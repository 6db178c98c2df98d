/- Texts of this proof, one behind the other: IC, R2, LawFO, OC, OB. -/
import Derived.Test.YtmhdijklindipaaZ3
import Derived.Test.YtmhdijklindipaaZ2
import Derived.Test.YtmhdijklindipaaCG
import Derived.Test.YtmhdijklindipaaLawT
import Derived.Test.YtmhdijklindipaaZ4
import Derived.Test.YtmhdijklindipaaZ17
import Derived.WalkKit
import Derived.WalkSpells
import Derived.WalkLawsBesides
import Derived.Deep.RegionLaw
import Derived.Deep.QuietTactic
import Derived.BigQuiet
import Derived.BigRegion
import Derived.Lib.Hide
import Derived.Deep.RegionHeld3
import Derived.Test.YtmhdijklindipaaKMInstr
import Derived.ProofKit
import Derived.OpenShut
import Derived.ShutString
import Derived.ChangeOld
import Derived.Below
import Derived.Deep.Slices
import Derived.Deep.Fields
import Derived.Test.YtmhdijklindipaaRows
import Derived.Test.YtmhdijklindipaaDR1
namespace Go.Proofs.Ytmhdijklindipaa
open Go.RowKit
set_option linter.unusedVariables false
set_option maxRecDepth 100000

def inUp (es : List Nd) : Nat → List Int
  | 0 => []
  | k + 1 => if hasIn es (k : Int) = true then inUp es k ++ [(k : Int)] else inUp es k
theorem inUp_two (es : List Nd) : inUp es 2 = inputsL es := by
  unfold inputsL twoOf inUp inUp inUp
  cases hasIn es 0 <;> cases hasIn es 1 <;> simp
theorem inUp_len (es : List Nd) : ∀ k, (inUp es k).length ≤ k := by
  intro k
  induction k with
  | zero => simp [inUp]
  | succ k ih =>
    unfold inUp; split
    · rw [List.length_append]; simp; omega
    · omega
set_option maxHeartbeats 2000000 in
theorem iInputsOf_any (L B : Nat) (A : Option Addr) (c : Nat) (es : List Nd) (w : World) (hl : es.length ≤ 1048576) (hes : NS w L B A es) (hB : B ≤ w.heap.size) :
    Calls Try.prog 103 #[.slice A es.length c] w (IntsRes w (inputsR es) (good es)) := by
  have H := Lib.hid (IsExpr_any L B A c es w hl hes hB)
  have hE := Lib.hid hes
  have hBB := Lib.hid hB
  clear hes hB
  cases hg : good es
  · have hR2 : Hid (inputsR es = []) := by simp [Hid, inputsR, hg]
    rw [hg] at H
    clear hg
    go_enter Try.func103, Try.ntmps103
    go_wp2_with (fail)
    refine H.out.mono ?_
    rintro e w2 ⟨rfl, hb⟩
    go_wp2_with (fail)
    go_ret2
    refine ⟨none, 0, ?_, ?_, hb⟩
    · rw [hR2.out]; rfl
    · rw [hR2.out]; exact OW.nil _ _ _
  have hR2 : Hid (inputsR es = inputsL es) := by simp [Hid, inputsR, hg]
  have hT := Lib.hid (inUp_two es)
  have hF := Lib.hid (fun (k : Nat) (W : World) (hW : Below w.heap.size w W) => hasInput_any L B A c es (k : Int) W hl (hE.out.below hW hBB.out) (Nat.le_trans hBB.out hW.size))
  obtain ⟨i0, hi, hz0, hz1, hz2⟩ := info_parts Try.infoInt
  have hI := Lib.hid hi
  have hZ0 := Lib.hid hz0
  have hZ1 := Lib.hid hz1
  have hZ2 := Lib.hid hz2
  clear hi hz0 hz1 hz2
  rw [hg] at H
  clear hg
  go_enter Try.func103, Try.ntmps103
  go_wp2_with (fail)
  refine H.out.mono ?_
  rintro e w2 ⟨rfl, hb⟩
  have hbb := Lib.hid hb
  clear hb
  go_wp2
  go_loopw [4, 9] (fun v i wr => ∃ k : Nat, k ≤ 2 ∧ i = .int .i64 k ∧ OW wr w.heap.size wr.heap.size v (inUp es k) ∧ Below w.heap.size w wr) (fun _ i _ => 2 - (intOf i).toNat)
  case atStart => exact ⟨0, Nat.zero_le _, rfl, OW.nil _ _ _, hbb.out⟩
  case round =>
    obtain ⟨k, hk, rfl, how, hbel⟩ := hrel
    obtain ⟨V, cv, rfl, _⟩ := how.form
    have hOW := Lib.hid how
    have hBL := Lib.hid hbel
    have hlo := Lib.hid how.lo
    have hIL := Lib.hid (inUp_len es k)
    clear how hbel
    by_cases hlt : k < 2
    · have hk2 : (k : Int) < 2 := by omega
      have hC := Lib.hid (hF.out k wr hBL.out)
      cases hh : hasIn es (k : Int)
      · have hx : Hid (inUp es (k + 1) = inUp es k) := by rw [Hid, inUp]; simp [hh]
        rw [hh] at hC
        clear hh
        generalize inUp es k = xs at *
        go_wp2_with (go_at_call 216; (with_reducible refine hC.out.mono ?_); rintro e w3 ⟨rfl, hb3⟩)
        have hB3 := Lib.hid (hBL.out.trans (hb3.mono hBL.out.size))
        have hO3 := Lib.hid (hOW.out.below hb3 (Nat.le_refl _))
        have hs3 := hb3.size
        clear hb3
        go_roundw
        case rel => exact ⟨k + 1, by omega, by go_num, by rw [hx.out]; exact hO3.out.more hs3, hB3.out⟩
        case measure => simp [intOf]; omega
      · have hx : Hid (inUp es (k + 1) = inUp es k ++ [(k : Int)]) := by rw [Hid, inUp]; simp [hh]
        rw [hh] at hC
        clear hh
        generalize inUp es k = xs at *
        have hxl : xs.length ≤ 2 := by have := hIL.out; omega
        go_wp2_with (first | (go_at_call 216; (with_reducible refine hC.out.mono ?_); rintro e w3 ⟨rfl, hb3⟩; have hB3 := Lib.hid (hBL.out.trans (hb3.mono hBL.out.size)); have hO3 := Lib.hid ((hOW.out.below hb3 (Nat.le_refl _)).1.alloc (.cells #[.int .i64 (k : Int)] 3)); clear hb3) | (at_builtin; refine wpList_append_own _ rfl _ _ 27 rfl w.heap.size 3 i0 (.int .i64 0) 1 8 Try.underlying27 hI.out hZ0.out hZ1.out hZ2.out rfl (by decide) _ _ _ rfl hO3.out ⟨w3.heap.size, 0, none⟩ 1 1 [.int .i64 (k : Int)] rfl rfl (new1 rfl) (one1 _) (by unfold maxLen; omega) (by omega) (by have := hB3.out.size; simp; omega) ?_; intro v' w4 hown4 hgr4 _))
        have R1 := Lib.hid (OW.push (by simpa using hown4) : OW w4 w.heap.size w4.heap.size v' (xs ++ [(k : Int)]))
        have R2 := Lib.hid ((hB3.out.alloc hB3.out.size (.cells #[.int .i64 (k : Int)] 3)).grown hgr4 (by have := hB3.out.size; simp; omega) (fun k hk => (hlo.out k hk).1))
        clear hown4 hgr4
        go_wp2
        go_roundw
        case rel => exact ⟨k + 1, by omega, by go_num, by rw [hx.out]; exact R1.out, R2.out⟩
        case measure => simp [intOf]; omega
    · obtain rfl : k = 2 := by omega
      rw [hT.out] at hOW
      have hlen : Hid ((inUp es 2).length = (inputsL es).length) := by rw [Hid, hT.out]
      go_wp2
      go_ret2
      rw [hR2.out]
      exact ⟨V, cv, by rw [hlen.out]; rfl, hOW.out, hBL.out⟩
theorem sInputsOf_k (L B : Nat) (A : Option Addr) (c : Nat) (es : List Nd) (w : World) (hl : es.length ≤ 1048576) (hes : RS Nd.enc 4 w L B A es) (hB : B ≤ w.heap.size) :
    Calls Try.prog 104 #[.slice A es.length c] w (ResInputsOf (inputsR es) (good es) w) := sInputsOf_any L B A c es w hl hes.ns hB
theorem iInputsOf_k (L B : Nat) (A : Option Addr) (c : Nat) (es : List Nd) (w : World) (hl : es.length ≤ 1048576) (hes : RS Nd.enc 4 w L B A es) (hB : B ≤ w.heap.size) :
    Calls Try.prog 103 #[.slice A es.length c] w (ResInputsOf (inputsR es) (good es) w) := iInputsOf_any L B A c es w hl hes.ns hB
end Go.Proofs.Ytmhdijklindipaa

namespace Go.Proofs.Ytmhdijklindipaa
open Go.RowKit
set_option linter.unusedVariables false

set_option maxRecDepth 100000 in
set_option maxHeartbeats 8000000 in
theorem iDepthOf_any (L B : Nat) (A : Option Addr) (c : Nat) (es : List Nd) (w : World) (hl : es.length ≤ 1048576) (hes : NS w L B A es) (hB : B ≤ w.heap.size) :
    Calls Try.prog 95 #[.slice A es.length c] w fun e w' => e = .returned (.tuple #[.int .i64 (depR es), .bool (good es)]) ∧ Below w.heap.size w w' := by
  have H := Lib.hid (IsExpr_any L B A c es w hl hes hB)
  have hE := Lib.hid hes
  have hBB := Lib.hid hB
  clear hes hB
  cases hg : good es
  · have hR2 : Hid (depR es = 0) := by simp [Hid, depR, hg]
    go_enter Try.func95, Try.ntmps95
    go_wp2_with (fail)
    refine H.out.mono ?_
    rintro e w2 ⟨rfl, hb⟩
    have hbb := Lib.hid hb
    clear hb
    go_wp2_with (fail)
    go_ret2
    exact ⟨by rw [hR2.out]; rfl, hbb.out⟩
  have hR2 : Hid (depR es = (depAt es es.length).getD (es.length - 1) 0) := by simp [Hid, depR, hg]
  obtain ⟨hl1, hl24, hok⟩ := good_len hg
  have hP := Lib.hid (ok_parts hok)
  have hmk := run_make_ints es.length (by omega)
  clear hok
  go_enter Try.func95, Try.ntmps95
  go_wp2_with (fail)
  refine H.out.mono ?_
  rintro e w2 ⟨rfl, hb⟩
  have hbb := Lib.hid hb
  have hsz := hb.size
  clear hb
  have hU0 : Hid (IB (w2.alloc (.cells (intCells (zeros es.length)) 3)) w2.heap.size 3 (depAt es 0)) := heap_alloc_new w2 _
  have hBel0 := Lib.hid ((Below.refl w2.heap.size w2).alloc (Nat.le_refl _) (.cells (intCells (zeros es.length)) 3))
  have hE2 : Hid (NS w2 L B A es) := hE.out.below hbb.out hBB.out
  have hB2 : B ≤ w2.heap.size := Nat.le_trans hBB.out hsz
  go_wp2
  go_loopw [17] (fun i wr => ∃ k : Nat, k ≤ es.length ∧ i = .int .i64 k ∧ IB wr w2.heap.size 3 (depAt es k) ∧ Below w2.heap.size w2 wr) (fun i _ => es.length - (intOf i).toNat)
  case atStart => exact ⟨0, Nat.zero_le _, rfl, hU0.out, hBel0.out⟩
  case round =>
    obtain ⟨k, hk, rfl, hib, hbel⟩ := hrel
    have hIB := Lib.hid hib
    have hglt := hib.lt
    clear hib hmk hBel0 hU0
    by_cases hlt : k < es.length
    · obtain ⟨b, o, rfl, ⟨_, hbB⟩, hc⟩ := (hE2.out.below hbel hB2) (by omega)
      obtain ⟨c1, c2, c3, c4⟩ := hc k hlt
      clear hc
      have hPk : Hid (∀ p ∈ parts es[k], 0 ≤ p ∧ p < es.length) := hP.out _ (List.getElem_mem hlt)
      have hSk := Lib.hid (depAt_succ hlt)
      have hBd := Lib.hid (depAt_Bd (es := es) (k := k) hk)
      have hLen := Lib.hid (depAt_len es k)
      have hp2 := parts_len es[k]
      clear hP
      generalize hnd : es[k] = nd at *
      obtain ⟨s, a, bb, v⟩ := nd
      clear hnd
      go_wp2_with (fail)
      refine (operandsOf_any _ _ _ _ _).mono ?_
      rintro e w3 ⟨A2, cc, rfl, hIS, hb2⟩
      have hI2 := Lib.hid hIS
      have hbel2 : Below w2.heap.size w2 w3 := hbel.trans (((Below.refl _ _).alloc hbel.size _).trans (hb2.mono (by simp; have := hbel.size; omega)))
      have hIB2 : Hid (IB w3 w2.heap.size 3 (depAt es k)) := (show IB _ _ _ _ from hIB.out).below ((Below.refl wr.heap.size wr).alloc (Nat.le_refl _) _ |>.trans (hb2.mono (by simp))) hglt
      have hsz2 := hb2.size
      simp at hsz2
      clear hIS hb2 hIB c1 c2 c3 c4 hbel
      generalize hps : parts ⟨s, a, bb, v⟩ = ps at *
      clear hps
      go_wp2_with (fail)
      go_loopw [25] (fun i wi => ∃ j : Nat, j ≤ ps.length ∧ i = .int .i64 j ∧ IB wi w2.heap.size 3 ((ps.take j).foldl (dstep k) (depAt es k)) ∧ Below w2.heap.size w2 wi ∧ IS wi (w2.heap.size + 1) wi.heap.size A2 ps) (fun i _ => ps.length - (intOf i).toNat)
      case atStart =>
        refine ⟨0, Nat.zero_le _, rfl, hIB2.out, hbel2, hI2.out.more ?_ (Nat.le_refl _)⟩
        simp; omega
      case round =>
        obtain ⟨j, hj, rfl, hib, hbel3, his⟩ := hrel
        have hIB3 := Lib.hid hib
        have hIS3 := Lib.hid his
        have hBel3 := Lib.hid hbel3
        clear hib his hbel3
        by_cases hjt : j < ps.length
        · obtain ⟨b2, o2, rfl, hbb2, hc⟩ := hIS3.out (by omega)
          have hcj := hc j hjt
          obtain ⟨hq0, hq1⟩ := hPk.out _ (List.getElem_mem hjt)
          obtain ⟨q, hq⟩ := Int.eq_ofNat_of_zero_le hq0
          have hql : q < es.length := by omega
          rw [hq] at hcj
          have hQ := Lib.hid hq
          clear hc hq hq0 hq1
          have hlen3 : ((ps.take j).foldl (dstep k) (depAt es k)).length = es.length := by rw [foldl_dstep_len]; exact hLen.out
          have hcu := hIB3.out.cell q (by rw [hlen3]; exact hql)
          have hck := hIB3.out.cell k (by rw [hlen3]; exact hlt)
          have hfk := hIB3.out.frozen k
          have hbd3 := (foldl_dstep_Bd k (ps.take j) hBd.out) q
          have hbd4 := (foldl_dstep_Bd k (ps.take j) hBd.out) k
          have hlj : (ps.take j).length ≤ 2 := by rw [List.length_take]; omega
          have hsnoc : (ps.take (j + 1)).foldl (dstep k) (depAt es k) = ((ps.take j).foldl (dstep k) (depAt es k)).set k (max (((ps.take j).foldl (dstep k) (depAt es k)).getD k 0) (((ps.take j).foldl (dstep k) (depAt es k)).getD q 0 + 1)) := by
            rw [List.take_succ_eq_append_getElem hjt, List.foldl_append, hQ.out]; rfl
          have hS3 := Lib.hid hsnoc
          generalize (ps.take j).foldl (dstep k) (depAt es k) = us at *
          have hcu' : wr.cell? ⟨w2.heap.size, q, none⟩ = some (.int .i64 (us.getD q 0)) := by
            rw [hcu, List.getD_eq_getElem?_getD, List.getElem?_eq_getElem (by omega)]; rfl
          have hck' : wr.cell? ⟨w2.heap.size, k, none⟩ = some (.int .i64 (us.getD k 0)) := by
            rw [hck, List.getD_eq_getElem?_getD, List.getElem?_eq_getElem (by omega)]; rfl
          clear hcu hck hsnoc hlen3
          generalize us.getD q 0 = x at *
          generalize us.getD k 0 = y at *
          obtain ⟨hx0, hx1⟩ := hbd3
          obtain ⟨hy0, hy1⟩ := hbd4
          have hx2 : x ≤ 1000 := by omega
          have hy2 : y ≤ 1000 := by omega
          clear hx1 hy1
          have hkeep : ∀ (z : Int) (p : Addr), p.block ≠ w2.heap.size → (wr.setCell ⟨w2.heap.size, k, none⟩ (.int .i64 z)).cell? p = wr.cell? p := fun z p hne => World.cell?_setCell_other wr _ p _ (fun e => by subst e; exact hne rfl)
          have hK := Lib.hid hkeep
          clear hkeep
          have i1 : (q : Int) < (es.length : Int) := by omega
          have i2 : (0 : Int) ≤ (q : Int) := by omega
          have i3 : (k : Int) < (es.length : Int) := by omega
          have i4 : (0 : Int) ≤ (k : Int) := by omega
          have i5 : IntKind.i64.wrap (x + 1) = x + 1 := by rw [IntKind.wrap_i64]; omega
          go_wp2_with (fail)
          go_region
          all_goals
            go_wp2
            go_roundw
            case rel =>
              have hmx : (if y < x + 1 then x + 1 else y) = max y (x + 1) := by split <;> omega
              try simp only [hmx]
              refine ⟨j + 1, by omega, by go_num, ?_, (hBel3.out.setCell (Nat.le_refl _) _).drew, ?_⟩
              · rw [hS3.out]; exact hIB3.out.set k (max y (x + 1))
              · have := hIS3.out.keep (w' := wr.setCell ⟨w2.heap.size, k, none⟩ (.int .i64 (max y (x + 1)))) fun p hp _ => hK.out _ p (by omega)
                exact this.more (Nat.le_refl _) (by simp [World.setCell])
            case measure => simp [intOf]; omega
        · obtain rfl : j = ps.length := by omega
          go_wp2
          go_roundw
          case rel =>
            refine ⟨k + 1, by omega, by go_num, ?_, hBel3.out⟩
            have := hIB3.out
            rw [List.take_length] at this
            rw [hSk.out]; exact this
          case measure => simp [intOf]; omega
    · obtain rfl : k = es.length := by omega
      obtain ⟨m, hm⟩ : ∃ m, es.length = m + 1 := ⟨es.length - 1, by omega⟩
      have hlen := depAt_len es es.length
      have hR3 := hR2.out
      have hib := hIB.out
      clear hIB hR2
      generalize depAt es es.length = D at *
      have hcm := hib.cell m (by omega)
      have hRm : depR es = D[m]'(by omega) := by
        rw [hR3, List.getD_eq_getElem?_getD, show es.length - 1 = m by omega, List.getElem?_eq_getElem (by omega)]; rfl
      generalize D[m]'(by omega) = z at *
      have hRm := Lib.hid hRm
      have HB := Lib.hid (hbb.out.trans (hbel.mono hsz))
      clear hlen hR3 hib
      rw [hm]
      go_wp2
      go_ret2
      exact ⟨by rw [hRm.out]; rfl, HB.out⟩
end Go.Proofs.Ytmhdijklindipaa

/- FnFoldedExpressions: folding keeps the values and leaves nothing to fold. -/
namespace Go.Proofs.Ytmhdijklindipaa
open Go.RowKit
set_option linter.unusedVariables false
set_option maxRecDepth 100000

theorem dep_le9 (es : List Nd) : ¬ cntR es < depR es := by
  cases hg : good es
  · simp [depR, cntR, hg]
  · have := dep_le hg; omega
theorem fo_node {D : List Nd} (hg : good D = true) {k : Nat} (hk : k < D.length) (h : nfT (tmE D k) = true) :
    (D[k].op.toList = [105,110]) ∨ ((D[k].op.toList == [105,110]) = false ∧ D[k].op.toList = [99,111,110,115,116]) ∨
    ((D[k].op.toList = [110,111,116] ∨ ((D[k].op.toList == [110,111,116]) = false ∧ D[k].op.toList = [110,101,103])) ∧ ∃ a : Nat, D[k].a = a ∧ ∃ ha : a < D.length, (D[a].op.toList == [99,111,110,115,116]) = false) ∨
    ((D[k].op.toList == [105,110]) = false ∧ (D[k].op.toList == [99,111,110,115,116]) = false ∧ (D[k].op.toList == [110,111,116]) = false ∧ (D[k].op.toList == [110,101,103]) = false ∧ ∃ a b : Nat, D[k].a = a ∧ D[k].b = b ∧ ∃ (ha : a < D.length) (hb : b < D.length), (D[a].op.toList == [99,111,110,115,116]) = false ∨ (D[a].op.toList = [99,111,110,115,116] ∧ (D[b].op.toList == [99,111,110,115,116]) = false)) := by
  obtain ⟨_, _, ok⟩ := good_len hg
  obtain ⟨_, h1, h2⟩ := nf_node ok hk h
  rcases node_kinds (ok_get ok hk) with ⟨e, _⟩ | ⟨e, e', hv⟩ | ⟨e, e', k1, k2, ha0, ha1, hb⟩ | ⟨e, e', k1, k2, ha0, ha1, hb0, hb1⟩
  · right; left; exact ⟨by rw [e]; rfl, e⟩
  · left; exact e
  · right; right; left
    obtain ⟨a, ea, ha, hc⟩ := h1 k1
    refine ⟨?_, a, ea, ha, hc⟩
    unfold isOne at k1
    cases h9 : (D[k].op.toList == [110,111,116])
    · right; rw [h9] at k1; exact ⟨rfl, by simpa using k1⟩
    · left; simpa using h9
  · right; right; right
    obtain ⟨a, b, ea, eb, ha, hb, hc⟩ := h2 k2 k1
    unfold isOne at k1; simp only [Bool.or_eq_false_iff] at k1
    refine ⟨e', e, k1.1, k1.2, a, b, ea, eb, ha, hb, ?_⟩
    rw [Bool.and_eq_false_iff] at hc
    cases hca : isConst D[a].op
    · left; exact hca
    · right
      rcases hc with hc | hc
      · rw [hca] at hc; cases hc
      · exact ⟨by unfold isConst at hca; simpa using hca, hc⟩

set_option maxHeartbeats 16000000 in
theorem fnFoldedExpressions_go (A A' : Option Addr) (c c' : Nat) (bs bs' : List Int) (w : World) (hbl : bs.length + bs'.length ≤ 1048576) (ha : ∀ x ∈ bs, 0 ≤ x ∧ x ≤ 255) (ha' : ∀ x ∈ bs', 0 ≤ x ∧ x ≤ 255) (hy : BY w w.heap.size A bs) (hy' : BY w w.heap.size A' bs') :
    Calls Try.prog 11 #[.slice A bs.length c, .slice A' bs'.length c'] w fun e w' => e = .returned (.bool true) ∧ Below w.heap.size w w' := by
  have hB := Lib.hid (Below.refl w.heap.size w)
  have hBY := Lib.hid fun (W : World) (hW : Below w.heap.size w W) => ((hy.keep fun j hj => hW.block j hj).more hW.size : BY W W.heap.size A bs)
  have hBY' := Lib.hid fun (W : World) (hW : Below w.heap.size w W) => ((hy'.keep fun j hj => hW.block j hj).more hW.size : BY W W.heap.size A' bs')
  have HBig := Lib.hid (big_no A A' bs.length bs'.length c c' w (by omega) (by omega) hbl)
  have hA := Lib.hid ha
  have hA' := Lib.hid ha'
  clear hy hy' ha ha'
  go_enter Try.func11, Try.ntmps11
  go_wp2_with (fail)
  refine HBig.out.mono ?_
  rintro e w0 ⟨rfl, rfl⟩
  clear HBig
  have H := Lib.hid (DrawFoldExpr_d A c bs w (by omega) hA.out (hBY.out w hB.out))
  go_wp2_with (fail)
  refine (H.out).mono ?_
  rintro e w1 ⟨_, xe, rfl, ⟨Ae, ce, rfl, ne, ke, re⟩, hbe⟩
  replace hB := Lib.hid (hB.out.trans (hbe.mono hB.out.size))
  have h_e := Lib.hid (re.more (Nat.zero_le _) (Nat.le_refl _))
  clear hbe H
  have hke := Lib.hid ke
  clear re ke
  have hJ : ∃ J, good xe = J := ⟨_, rfl⟩
  obtain ⟨J, hJ⟩ := hJ
  replace hJ := Lib.hid hJ
  have hfl := Lib.hid (foldR_len xe)
  have hq9 := iFoldExpr_k 0 w1.heap.size Ae ce xe w1 (by omega) h_e.out (Nat.le_refl _) hke.out
  rw [hJ.out] at hq9
  have H := Lib.hid hq9
  clear hq9
  go_wp2_with (fail)
  refine (H.out).mono ?_
  rintro e w2 ⟨As, cs, rfl, o9, hbe⟩
  replace h_e := Lib.hid (h_e.out.upE hbe)
  replace hB := Lib.hid (hB.out.trans (hbe.mono hB.out.size))
  have h_s := Lib.hid ((OK.rsN o9).more (Nat.zero_le _) (Nat.le_refl _))
  have hks := Lib.hid (OK.capN o9)
  clear hbe H
  clear o9
  have hq9 := sFoldExpr_k 0 w2.heap.size Ae ce xe w2 (by omega) h_e.out (Nat.le_refl _)
  rw [hJ.out] at hq9
  have H := Lib.hid hq9
  clear hq9
  go_wp2_with (fail)
  refine (H.out).mono ?_
  rintro e w3 ⟨Aq, cq, rfl, o9, hbe⟩
  replace h_e := Lib.hid (h_e.out.upE hbe)
  replace h_s := Lib.hid (h_s.out.upE hbe)
  replace hB := Lib.hid (hB.out.trans (hbe.mono hB.out.size))
  have h_q := Lib.hid ((OK.rsN o9).more (Nat.zero_le _) (Nat.le_refl _))
  clear hbe H
  clear o9
  have e1 : (J != J) = false := by simp
  have H := Lib.hid (pSameExpr_eq 0 w3.heap.size 0 w3.heap.size As Aq _ _ cs cq (foldR xe) w3 rfl rfl hfl.out h_s.out h_q.out)
  go_wp2_with (fail)
  refine (H.out).mono ?_
  rintro e w4 ⟨rfl, n, hn⟩
  have hbe := yes_below hn
  clear hn n
  replace h_e := Lib.hid (h_e.out.upE hbe)
  replace h_s := Lib.hid (h_s.out.upE hbe)
  replace h_q := Lib.hid (h_q.out.upE hbe)
  replace hB := Lib.hid (hB.out.trans (hbe.mono hB.out.size))
  clear hbe H
  clear h_q
  have H := Lib.hid (DrawCountOps_d A' c' bs' w4 (by omega) hA'.out (hBY'.out _ hB.out))
  go_wp2_with (fail)
  refine (H.out).mono ?_
  rintro e w5 ⟨_, xf, rfl, ⟨Af, cf, rfl, nf, kf, rf⟩, hbe⟩
  replace h_e := Lib.hid (h_e.out.upE hbe)
  replace h_s := Lib.hid (h_s.out.upE hbe)
  replace hB := Lib.hid (hB.out.trans (hbe.mono hB.out.size))
  have h_f := Lib.hid (rf.more (Nat.zero_le _) (Nat.le_refl _))
  clear hbe H
  clear rf kf
  have hG : ∃ G, good xf = G := ⟨_, rfl⟩
  obtain ⟨G, hG⟩ := hG
  replace hG := Lib.hid hG
  have hil := Lib.hid (inputsR_len xf)
  have hdc := dep_le9 xf
  have hq9 := iCountOps_any 0 w5.heap.size Af cf xf w5 (by omega) h_f.out.ns (Nat.le_refl _)
  rw [hG.out] at hq9
  have H := Lib.hid hq9
  clear hq9
  go_wp2_with (fail)
  refine (H.out).mono ?_
  rintro e w6 ⟨rfl, hbe⟩
  replace h_e := Lib.hid (h_e.out.upE hbe)
  replace h_s := Lib.hid (h_s.out.upE hbe)
  replace h_f := Lib.hid (h_f.out.upE hbe)
  replace hB := Lib.hid (hB.out.trans (hbe.mono hB.out.size))
  clear hbe H
  have hq9 := sCountOps_any 0 w6.heap.size Af cf xf w6 (by omega) h_f.out.ns (Nat.le_refl _)
  rw [hG.out] at hq9
  have H := Lib.hid hq9
  clear hq9
  go_wp2_with (fail)
  refine (H.out).mono ?_
  rintro e w7 ⟨rfl, hbe⟩
  replace h_e := Lib.hid (h_e.out.upE hbe)
  replace h_s := Lib.hid (h_s.out.upE hbe)
  replace h_f := Lib.hid (h_f.out.upE hbe)
  replace hB := Lib.hid (hB.out.trans (hbe.mono hB.out.size))
  clear hbe H
  have hq9 := iInputsOf_any 0 w7.heap.size Af cf xf w7 (by omega) h_f.out.ns (Nat.le_refl _)
  rw [hG.out] at hq9
  have H := Lib.hid hq9
  clear hq9
  go_wp2_with (fail)
  refine (H.out).mono ?_
  rintro e w8 ⟨Ai, ci, rfl, ou, hbe⟩
  replace h_e := Lib.hid (h_e.out.upE hbe)
  replace h_s := Lib.hid (h_s.out.upE hbe)
  replace h_f := Lib.hid (h_f.out.upE hbe)
  replace hB := Lib.hid (hB.out.trans (hbe.mono hB.out.size))
  have h_i := Lib.hid (IS.more (OW.rs ou) (Nat.zero_le _) (Nat.le_refl _))
  clear hbe H
  clear ou
  have hq9 := sInputsOf_any 0 w8.heap.size Af cf xf w8 (by omega) h_f.out.ns (Nat.le_refl _)
  rw [hG.out] at hq9
  have H := Lib.hid hq9
  clear hq9
  go_wp2_with (fail)
  refine (H.out).mono ?_
  rintro e w9 ⟨Aj, cj, rfl, ou, hbe⟩
  replace h_e := Lib.hid (h_e.out.upE hbe)
  replace h_s := Lib.hid (h_s.out.upE hbe)
  replace h_f := Lib.hid (h_f.out.upE hbe)
  replace h_i := Lib.hid (h_i.out.upD hbe)
  replace hB := Lib.hid (hB.out.trans (hbe.mono hB.out.size))
  have h_j := Lib.hid (IS.more (OW.rs ou) (Nat.zero_le _) (Nat.le_refl _))
  clear hbe H
  clear ou
  have hq9 := iDepthOf_any 0 w9.heap.size Af cf xf w9 (by omega) h_f.out.ns (Nat.le_refl _)
  rw [hG.out] at hq9
  have H := Lib.hid hq9
  clear hq9
  go_wp2_with (fail)
  refine (H.out).mono ?_
  rintro e w10 ⟨rfl, hbe⟩
  replace h_e := Lib.hid (h_e.out.upE hbe)
  replace h_s := Lib.hid (h_s.out.upE hbe)
  replace h_f := Lib.hid (h_f.out.upE hbe)
  replace h_i := Lib.hid (h_i.out.upD hbe)
  replace h_j := Lib.hid (h_j.out.upD hbe)
  replace hB := Lib.hid (hB.out.trans (hbe.mono hB.out.size))
  clear hbe H
  have hq9 := sDepthOf_any 0 w10.heap.size Af cf xf w10 (by omega) h_f.out.ns (Nat.le_refl _)
  rw [hG.out] at hq9
  have H := Lib.hid hq9
  clear hq9
  go_wp2_with (fail)
  refine (H.out).mono ?_
  rintro e w11 ⟨rfl, hbe⟩
  replace h_e := Lib.hid (h_e.out.upE hbe)
  replace h_s := Lib.hid (h_s.out.upE hbe)
  replace h_f := Lib.hid (h_f.out.upE hbe)
  replace h_i := Lib.hid (h_i.out.upD hbe)
  replace h_j := Lib.hid (h_j.out.upD hbe)
  replace hB := Lib.hid (hB.out.trans (hbe.mono hB.out.size))
  clear hbe H
  have e2 : (G != G) = false := by simp
  generalize cntR xf = cn at *
  generalize depR xf = dn at *
  have H := Lib.hid (pSame_eq 0 w11.heap.size 0 w11.heap.size Ai Aj _ _ ci cj (inputsR xf) w11 rfl rfl hil.out h_i.out h_j.out)
  go_wp2_with (fail)
  refine (H.out).mono ?_
  rintro e w12 ⟨rfl, n, hn⟩
  have hbe := yes_below hn
  clear hn n
  replace h_e := Lib.hid (h_e.out.upE hbe)
  replace h_s := Lib.hid (h_s.out.upE hbe)
  replace h_f := Lib.hid (h_f.out.upE hbe)
  replace h_i := Lib.hid (h_i.out.upD hbe)
  replace h_j := Lib.hid (h_j.out.upD hbe)
  replace hB := Lib.hid (hB.out.trans (hbe.mono hB.out.size))
  clear hbe H
  clear h_i h_j h_f
  cases G
  · cases J
    · go_wp2
      go_ret
      exact ⟨rfl, hB.out⟩
    · obtain ⟨f1, f2, f3, f4, f5, f6, f7⟩ := fold_facts hJ.out
      have hl64 : (foldR xe).length ≤ 24 := by rw [f1]; exact (good_len f2).2.1
      rw [f1] at h_s hks hfl hl64
      rw [f1]
      clear f1
      generalize keepL (foldOf xe) (xe.length - 1) = D at *
      replace f2 := Lib.hid f2
      replace f3 := Lib.hid f3
      replace f5 := Lib.hid f5
      replace f6 := Lib.hid f6
      replace f7 := Lib.hid f7
      have l1 : ¬ cntR xe < cntR D := by omega
      clear f4
      have htl := Lib.hid (tabR_len xe)
      have hil2 := Lib.hid (inputsR_len D)
      have hq9 := iFoldExpr_k 0 w12.heap.size As cs D w12 (by omega) h_s.out (Nat.le_refl _) hks.out
      rw [f2.out] at hq9
      rw [f3.out] at hq9
      have H := Lib.hid hq9
      clear hq9
      go_wp2_with (fail)
      refine (H.out).mono ?_
      rintro e w13 ⟨Aa, ca, rfl, o9, hbe⟩
      replace h_e := Lib.hid (h_e.out.upE hbe)
      replace h_s := Lib.hid (h_s.out.upE hbe)
      replace hB := Lib.hid (hB.out.trans (hbe.mono hB.out.size))
      have h_a := Lib.hid ((OK.rsN o9).more (Nat.zero_le _) (Nat.le_refl _))
      clear hbe H
      clear o9
      have hq9 := iCountOps_any 0 w13.heap.size Ae ce xe w13 (by omega) h_e.out.ns (Nat.le_refl _)
      rw [hJ.out] at hq9
      have H := Lib.hid hq9
      clear hq9
      go_wp2_with (fail)
      refine (H.out).mono ?_
      rintro e w14 ⟨rfl, hbe⟩
      replace h_e := Lib.hid (h_e.out.upE hbe)
      replace h_s := Lib.hid (h_s.out.upE hbe)
      replace h_a := Lib.hid (h_a.out.upE hbe)
      replace hB := Lib.hid (hB.out.trans (hbe.mono hB.out.size))
      clear hbe H
      have hq9 := iCountOps_any 0 w14.heap.size As cs D w14 (by omega) h_s.out.ns (Nat.le_refl _)
      rw [f2.out] at hq9
      have H := Lib.hid hq9
      clear hq9
      go_wp2_with (fail)
      refine (H.out).mono ?_
      rintro e w15 ⟨rfl, hbe⟩
      replace h_e := Lib.hid (h_e.out.upE hbe)
      replace h_s := Lib.hid (h_s.out.upE hbe)
      replace h_a := Lib.hid (h_a.out.upE hbe)
      replace hB := Lib.hid (hB.out.trans (hbe.mono hB.out.size))
      clear hbe H
      generalize cntR xe = n1 at *
      generalize cntR D = n2 at *
      have H := Lib.hid (pSameExpr_eq 0 w15.heap.size 0 w15.heap.size Aa As _ _ ca cs D w15 rfl rfl (by omega) h_a.out h_s.out)
      go_wp2_with (fail)
      refine (H.out).mono ?_
      rintro e w16 ⟨rfl, n, hn⟩
      have hbe := yes_below hn
      clear hn n
      replace h_e := Lib.hid (h_e.out.upE hbe)
      replace h_s := Lib.hid (h_s.out.upE hbe)
      replace h_a := Lib.hid (h_a.out.upE hbe)
      replace hB := Lib.hid (hB.out.trans (hbe.mono hB.out.size))
      clear hbe H
      clear h_a
      have hq9 := pTable_any 0 w16.heap.size As cs D w16 (by omega) h_s.out (Nat.le_refl _)
      rw [f5.out] at hq9
      have H := Lib.hid hq9
      clear hq9
      go_wp2_with (fail)
      refine (H.out).mono ?_
      rintro e w17 ⟨Ab, cb, rfl, ou, hbe⟩
      replace h_e := Lib.hid (h_e.out.upE hbe)
      replace h_s := Lib.hid (h_s.out.upE hbe)
      replace hB := Lib.hid (hB.out.trans (hbe.mono hB.out.size))
      have h_b := Lib.hid (IS.more (OW.rs ou) (Nat.zero_le _) (Nat.le_refl _))
      clear hbe H
      clear ou
      have H := Lib.hid (pTable_any 0 w17.heap.size Ae ce xe w17 (by omega) h_e.out (Nat.le_refl _))
      go_wp2_with (fail)
      refine (H.out).mono ?_
      rintro e w18 ⟨Ad, cd, rfl, ou, hbe⟩
      replace h_e := Lib.hid (h_e.out.upE hbe)
      replace h_s := Lib.hid (h_s.out.upE hbe)
      replace h_b := Lib.hid (h_b.out.upD hbe)
      replace hB := Lib.hid (hB.out.trans (hbe.mono hB.out.size))
      have h_d := Lib.hid (IS.more (OW.rs ou) (Nat.zero_le _) (Nat.le_refl _))
      clear hbe H
      clear ou
      have H := Lib.hid (pSame_eq 0 w18.heap.size 0 w18.heap.size Ab Ad _ _ cb cd (tabR xe) w18 rfl rfl htl.out h_b.out h_d.out)
      go_wp2_with (fail)
      refine (H.out).mono ?_
      rintro e w19 ⟨rfl, n, hn⟩
      have hbe := yes_below hn
      clear hn n
      replace h_e := Lib.hid (h_e.out.upE hbe)
      replace h_s := Lib.hid (h_s.out.upE hbe)
      replace h_b := Lib.hid (h_b.out.upD hbe)
      replace h_d := Lib.hid (h_d.out.upD hbe)
      replace hB := Lib.hid (hB.out.trans (hbe.mono hB.out.size))
      clear hbe H
      clear h_b h_d
      have hq9 := iInputsOf_any 0 w19.heap.size As cs D w19 (by omega) h_s.out.ns (Nat.le_refl _)
      rw [f2.out] at hq9
      have H := Lib.hid hq9
      clear hq9
      go_wp2_with (fail)
      refine (H.out).mono ?_
      rintro e w20 ⟨Ai, ci, rfl, ou, hbe⟩
      replace h_e := Lib.hid (h_e.out.upE hbe)
      replace h_s := Lib.hid (h_s.out.upE hbe)
      replace hB := Lib.hid (hB.out.trans (hbe.mono hB.out.size))
      clear hbe H
      clear ou
      have hcase : (((inputsR D).length : Int) == 0) = false ∨ ((((inputsR D).length : Int) == 0) = true ∧ ((D.length : Int) == 1) = true) := by
        by_cases h : inputsR D = []
        · right; exact ⟨by rw [h]; rfl, by rw [f6.out h]; rfl⟩
        · left; rw [beq_eq_false_iff_ne]; intro e; exact h (List.length_eq_zero_iff.1 (by omega))
      generalize (inputsR D).length = ln at *
      rcases hcase with g1 | ⟨g1, g2⟩
      · go_wp2
        clear g1 l1
        go_loopw [191] (fun i wr => ∃ k : Nat, k ≤ D.length ∧ i = .int .i64 k ∧ Below w20.heap.size w20 wr) (fun i _ => D.length - (intOf i).toNat)
        case atStart => exact ⟨0, Nat.zero_le _, rfl, Below.refl _ _⟩
        case round =>
          obtain ⟨k, hk, rfl, hbe⟩ := hrel
          generalize hQo : wr = wo at *
          clear hQo
          have hBL := Lib.hid hbe
          replace h_e := Lib.hid (h_e.out.upE hbe)
          replace h_s := Lib.hid (h_s.out.upE hbe)
          replace hB := Lib.hid (hB.out.trans (hbe.mono hB.out.size))
          clear hbe
          by_cases hkt : k < D.length
          · obtain ⟨sb, so, rfl, ⟨_, hsb⟩, hc⟩ := h_s.out.ns (by omega)
            obtain ⟨c1, c2, c3, c4⟩ := hc k hkt
            have hnode := fo_node f2.out hkt (f7.out k hkt)
            have hki : (k : Int) < (D.length : Int) := by omega
            have hk0 : (0 : Int) ≤ (k : Int) := by omega
            generalize hz : D[k] = z at *
            clear hz
            obtain ⟨op, za, zb, zv⟩ := z
            dsimp only at c1 c2 c3 c4 hnode
            have X1 : XN (wo.alloc (.cells #[.string op, .int .i64 za, .int .i64 zb, .int .i64 zv] 40)) wo.heap.size ⟨op, za, zb, zv⟩ := xn_new wo ⟨op, za, zb, zv⟩
            obtain ⟨m1, m2, m3, m4⟩ := X1.cells
            simp only at m1 m2 m3 m4
            have hfin : Hid (Below w20.heap.size w20 (wo.alloc (.cells #[.string op, .int .i64 za, .int .i64 zb, .int .i64 zv] 40))) := hBL.out.alloc (by have := hBL.out.size; omega) _
            have hOp := Lib.hid fun (i : Nat) (hi : i < D.length) => (World.cell?_alloc_lt wo (.cells #[.string op, .int .i64 za, .int .i64 zb, .int .i64 zv] 40) ⟨sb, so + i * 4, none⟩ hsb).trans (hc i hi).1
            clear X1 hBL hc
            rcases hnode with n1 | ⟨n1, n2⟩ | ⟨n1, qa, n4, n5, n6⟩ | ⟨n1, n2, n3, n4, qa, qb, n5, n6, n7, n8, n9⟩
            · go_wp2
              go_roundw
              case rel => exact ⟨k + 1, by omega, by go_num, hfin.out⟩
              case measure => simp [intOf]; omega
            · go_wp2
              go_roundw
              case rel => exact ⟨k + 1, by omega, by go_num, hfin.out⟩
              case measure => simp [intOf]; omega
            · subst n4
              have ca := hOp.out qa n5
              have i1 : (qa : Int) < (D.length : Int) := by omega
              have i2 : (0 : Int) ≤ (qa : Int) := by omega
              generalize D[qa].op = oa at *
              rcases n1 with n1 | ⟨n1, n1'⟩
              · go_wp2
                go_roundw
                case rel => exact ⟨k + 1, by omega, by go_num, hfin.out⟩
                case measure => simp [intOf]; omega
              · go_wp2
                go_roundw
                case rel => exact ⟨k + 1, by omega, by go_num, hfin.out⟩
                case measure => simp [intOf]; omega
            · subst n5
              subst n6
              have ca := hOp.out qa n7
              have cb := hOp.out qb n8
              have i1 : (qa : Int) < (D.length : Int) := by omega
              have i2 : (0 : Int) ≤ (qa : Int) := by omega
              have i3 : (qb : Int) < (D.length : Int) := by omega
              have i4 : (0 : Int) ≤ (qb : Int) := by omega
              generalize D[qa].op = oa at *
              generalize D[qb].op = ob at *
              rcases n9 with n9 | ⟨n9, n9'⟩
              · go_wp2
                go_roundw
                case rel => exact ⟨k + 1, by omega, by go_num, hfin.out⟩
                case measure => simp [intOf]; omega
              · go_wp2
                go_roundw
                case rel => exact ⟨k + 1, by omega, by go_num, hfin.out⟩
                case measure => simp [intOf]; omega
          · obtain rfl : k = D.length := by omega
            go_wp2
            go_ret
            exact ⟨rfl, hB.out⟩
      · go_wp2
        clear g1 g2 l1
        go_loopw [191] (fun i wr => ∃ k : Nat, k ≤ D.length ∧ i = .int .i64 k ∧ Below w20.heap.size w20 wr) (fun i _ => D.length - (intOf i).toNat)
        case atStart => exact ⟨0, Nat.zero_le _, rfl, Below.refl _ _⟩
        case round =>
          obtain ⟨k, hk, rfl, hbe⟩ := hrel
          generalize hQo : wr = wo at *
          clear hQo
          have hBL := Lib.hid hbe
          replace h_e := Lib.hid (h_e.out.upE hbe)
          replace h_s := Lib.hid (h_s.out.upE hbe)
          replace hB := Lib.hid (hB.out.trans (hbe.mono hB.out.size))
          clear hbe
          by_cases hkt : k < D.length
          · obtain ⟨sb, so, rfl, ⟨_, hsb⟩, hc⟩ := h_s.out.ns (by omega)
            obtain ⟨c1, c2, c3, c4⟩ := hc k hkt
            have hnode := fo_node f2.out hkt (f7.out k hkt)
            have hki : (k : Int) < (D.length : Int) := by omega
            have hk0 : (0 : Int) ≤ (k : Int) := by omega
            generalize hz : D[k] = z at *
            clear hz
            obtain ⟨op, za, zb, zv⟩ := z
            dsimp only at c1 c2 c3 c4 hnode
            have X1 : XN (wo.alloc (.cells #[.string op, .int .i64 za, .int .i64 zb, .int .i64 zv] 40)) wo.heap.size ⟨op, za, zb, zv⟩ := xn_new wo ⟨op, za, zb, zv⟩
            obtain ⟨m1, m2, m3, m4⟩ := X1.cells
            simp only at m1 m2 m3 m4
            have hfin : Hid (Below w20.heap.size w20 (wo.alloc (.cells #[.string op, .int .i64 za, .int .i64 zb, .int .i64 zv] 40))) := hBL.out.alloc (by have := hBL.out.size; omega) _
            have hOp := Lib.hid fun (i : Nat) (hi : i < D.length) => (World.cell?_alloc_lt wo (.cells #[.string op, .int .i64 za, .int .i64 zb, .int .i64 zv] 40) ⟨sb, so + i * 4, none⟩ hsb).trans (hc i hi).1
            clear X1 hBL hc
            rcases hnode with n1 | ⟨n1, n2⟩ | ⟨n1, qa, n4, n5, n6⟩ | ⟨n1, n2, n3, n4, qa, qb, n5, n6, n7, n8, n9⟩
            · go_wp2
              go_roundw
              case rel => exact ⟨k + 1, by omega, by go_num, hfin.out⟩
              case measure => simp [intOf]; omega
            · go_wp2
              go_roundw
              case rel => exact ⟨k + 1, by omega, by go_num, hfin.out⟩
              case measure => simp [intOf]; omega
            · subst n4
              have ca := hOp.out qa n5
              have i1 : (qa : Int) < (D.length : Int) := by omega
              have i2 : (0 : Int) ≤ (qa : Int) := by omega
              generalize D[qa].op = oa at *
              rcases n1 with n1 | ⟨n1, n1'⟩
              · go_wp2
                go_roundw
                case rel => exact ⟨k + 1, by omega, by go_num, hfin.out⟩
                case measure => simp [intOf]; omega
              · go_wp2
                go_roundw
                case rel => exact ⟨k + 1, by omega, by go_num, hfin.out⟩
                case measure => simp [intOf]; omega
            · subst n5
              subst n6
              have ca := hOp.out qa n7
              have cb := hOp.out qb n8
              have i1 : (qa : Int) < (D.length : Int) := by omega
              have i2 : (0 : Int) ≤ (qa : Int) := by omega
              have i3 : (qb : Int) < (D.length : Int) := by omega
              have i4 : (0 : Int) ≤ (qb : Int) := by omega
              generalize D[qa].op = oa at *
              generalize D[qb].op = ob at *
              rcases n9 with n9 | ⟨n9, n9'⟩
              · go_wp2
                go_roundw
                case rel => exact ⟨k + 1, by omega, by go_num, hfin.out⟩
                case measure => simp [intOf]; omega
              · go_wp2
                go_roundw
                case rel => exact ⟨k + 1, by omega, by go_num, hfin.out⟩
                case measure => simp [intOf]; omega
          · obtain rfl : k = D.length := by omega
            go_wp2
            go_ret
            exact ⟨rfl, hB.out⟩
  · cases J
    · go_wp2
      go_ret
      exact ⟨rfl, hB.out⟩
    · obtain ⟨f1, f2, f3, f4, f5, f6, f7⟩ := fold_facts hJ.out
      have hl64 : (foldR xe).length ≤ 24 := by rw [f1]; exact (good_len f2).2.1
      rw [f1] at h_s hks hfl hl64
      rw [f1]
      clear f1
      generalize keepL (foldOf xe) (xe.length - 1) = D at *
      replace f2 := Lib.hid f2
      replace f3 := Lib.hid f3
      replace f5 := Lib.hid f5
      replace f6 := Lib.hid f6
      replace f7 := Lib.hid f7
      have l1 : ¬ cntR xe < cntR D := by omega
      clear f4
      have htl := Lib.hid (tabR_len xe)
      have hil2 := Lib.hid (inputsR_len D)
      have hq9 := iFoldExpr_k 0 w12.heap.size As cs D w12 (by omega) h_s.out (Nat.le_refl _) hks.out
      rw [f2.out] at hq9
      rw [f3.out] at hq9
      have H := Lib.hid hq9
      clear hq9
      go_wp2_with (fail)
      refine (H.out).mono ?_
      rintro e w13 ⟨Aa, ca, rfl, o9, hbe⟩
      replace h_e := Lib.hid (h_e.out.upE hbe)
      replace h_s := Lib.hid (h_s.out.upE hbe)
      replace hB := Lib.hid (hB.out.trans (hbe.mono hB.out.size))
      have h_a := Lib.hid ((OK.rsN o9).more (Nat.zero_le _) (Nat.le_refl _))
      clear hbe H
      clear o9
      have hq9 := iCountOps_any 0 w13.heap.size Ae ce xe w13 (by omega) h_e.out.ns (Nat.le_refl _)
      rw [hJ.out] at hq9
      have H := Lib.hid hq9
      clear hq9
      go_wp2_with (fail)
      refine (H.out).mono ?_
      rintro e w14 ⟨rfl, hbe⟩
      replace h_e := Lib.hid (h_e.out.upE hbe)
      replace h_s := Lib.hid (h_s.out.upE hbe)
      replace h_a := Lib.hid (h_a.out.upE hbe)
      replace hB := Lib.hid (hB.out.trans (hbe.mono hB.out.size))
      clear hbe H
      have hq9 := iCountOps_any 0 w14.heap.size As cs D w14 (by omega) h_s.out.ns (Nat.le_refl _)
      rw [f2.out] at hq9
      have H := Lib.hid hq9
      clear hq9
      go_wp2_with (fail)
      refine (H.out).mono ?_
      rintro e w15 ⟨rfl, hbe⟩
      replace h_e := Lib.hid (h_e.out.upE hbe)
      replace h_s := Lib.hid (h_s.out.upE hbe)
      replace h_a := Lib.hid (h_a.out.upE hbe)
      replace hB := Lib.hid (hB.out.trans (hbe.mono hB.out.size))
      clear hbe H
      generalize cntR xe = n1 at *
      generalize cntR D = n2 at *
      have H := Lib.hid (pSameExpr_eq 0 w15.heap.size 0 w15.heap.size Aa As _ _ ca cs D w15 rfl rfl (by omega) h_a.out h_s.out)
      go_wp2_with (fail)
      refine (H.out).mono ?_
      rintro e w16 ⟨rfl, n, hn⟩
      have hbe := yes_below hn
      clear hn n
      replace h_e := Lib.hid (h_e.out.upE hbe)
      replace h_s := Lib.hid (h_s.out.upE hbe)
      replace h_a := Lib.hid (h_a.out.upE hbe)
      replace hB := Lib.hid (hB.out.trans (hbe.mono hB.out.size))
      clear hbe H
      clear h_a
      have hq9 := pTable_any 0 w16.heap.size As cs D w16 (by omega) h_s.out (Nat.le_refl _)
      rw [f5.out] at hq9
      have H := Lib.hid hq9
      clear hq9
      go_wp2_with (fail)
      refine (H.out).mono ?_
      rintro e w17 ⟨Ab, cb, rfl, ou, hbe⟩
      replace h_e := Lib.hid (h_e.out.upE hbe)
      replace h_s := Lib.hid (h_s.out.upE hbe)
      replace hB := Lib.hid (hB.out.trans (hbe.mono hB.out.size))
      have h_b := Lib.hid (IS.more (OW.rs ou) (Nat.zero_le _) (Nat.le_refl _))
      clear hbe H
      clear ou
      have H := Lib.hid (pTable_any 0 w17.heap.size Ae ce xe w17 (by omega) h_e.out (Nat.le_refl _))
      go_wp2_with (fail)
      refine (H.out).mono ?_
      rintro e w18 ⟨Ad, cd, rfl, ou, hbe⟩
      replace h_e := Lib.hid (h_e.out.upE hbe)
      replace h_s := Lib.hid (h_s.out.upE hbe)
      replace h_b := Lib.hid (h_b.out.upD hbe)
      replace hB := Lib.hid (hB.out.trans (hbe.mono hB.out.size))
      have h_d := Lib.hid (IS.more (OW.rs ou) (Nat.zero_le _) (Nat.le_refl _))
      clear hbe H
      clear ou
      have H := Lib.hid (pSame_eq 0 w18.heap.size 0 w18.heap.size Ab Ad _ _ cb cd (tabR xe) w18 rfl rfl htl.out h_b.out h_d.out)
      go_wp2_with (fail)
      refine (H.out).mono ?_
      rintro e w19 ⟨rfl, n, hn⟩
      have hbe := yes_below hn
      clear hn n
      replace h_e := Lib.hid (h_e.out.upE hbe)
      replace h_s := Lib.hid (h_s.out.upE hbe)
      replace h_b := Lib.hid (h_b.out.upD hbe)
      replace h_d := Lib.hid (h_d.out.upD hbe)
      replace hB := Lib.hid (hB.out.trans (hbe.mono hB.out.size))
      clear hbe H
      clear h_b h_d
      have hq9 := iInputsOf_any 0 w19.heap.size As cs D w19 (by omega) h_s.out.ns (Nat.le_refl _)
      rw [f2.out] at hq9
      have H := Lib.hid hq9
      clear hq9
      go_wp2_with (fail)
      refine (H.out).mono ?_
      rintro e w20 ⟨Ai, ci, rfl, ou, hbe⟩
      replace h_e := Lib.hid (h_e.out.upE hbe)
      replace h_s := Lib.hid (h_s.out.upE hbe)
      replace hB := Lib.hid (hB.out.trans (hbe.mono hB.out.size))
      clear hbe H
      clear ou
      have hcase : (((inputsR D).length : Int) == 0) = false ∨ ((((inputsR D).length : Int) == 0) = true ∧ ((D.length : Int) == 1) = true) := by
        by_cases h : inputsR D = []
        · right; exact ⟨by rw [h]; rfl, by rw [f6.out h]; rfl⟩
        · left; rw [beq_eq_false_iff_ne]; intro e; exact h (List.length_eq_zero_iff.1 (by omega))
      generalize (inputsR D).length = ln at *
      rcases hcase with g1 | ⟨g1, g2⟩
      · go_wp2
        clear g1 l1
        go_loopw [191] (fun i wr => ∃ k : Nat, k ≤ D.length ∧ i = .int .i64 k ∧ Below w20.heap.size w20 wr) (fun i _ => D.length - (intOf i).toNat)
        case atStart => exact ⟨0, Nat.zero_le _, rfl, Below.refl _ _⟩
        case round =>
          obtain ⟨k, hk, rfl, hbe⟩ := hrel
          generalize hQo : wr = wo at *
          clear hQo
          have hBL := Lib.hid hbe
          replace h_e := Lib.hid (h_e.out.upE hbe)
          replace h_s := Lib.hid (h_s.out.upE hbe)
          replace hB := Lib.hid (hB.out.trans (hbe.mono hB.out.size))
          clear hbe
          by_cases hkt : k < D.length
          · obtain ⟨sb, so, rfl, ⟨_, hsb⟩, hc⟩ := h_s.out.ns (by omega)
            obtain ⟨c1, c2, c3, c4⟩ := hc k hkt
            have hnode := fo_node f2.out hkt (f7.out k hkt)
            have hki : (k : Int) < (D.length : Int) := by omega
            have hk0 : (0 : Int) ≤ (k : Int) := by omega
            generalize hz : D[k] = z at *
            clear hz
            obtain ⟨op, za, zb, zv⟩ := z
            dsimp only at c1 c2 c3 c4 hnode
            have X1 : XN (wo.alloc (.cells #[.string op, .int .i64 za, .int .i64 zb, .int .i64 zv] 40)) wo.heap.size ⟨op, za, zb, zv⟩ := xn_new wo ⟨op, za, zb, zv⟩
            obtain ⟨m1, m2, m3, m4⟩ := X1.cells
            simp only at m1 m2 m3 m4
            have hfin : Hid (Below w20.heap.size w20 (wo.alloc (.cells #[.string op, .int .i64 za, .int .i64 zb, .int .i64 zv] 40))) := hBL.out.alloc (by have := hBL.out.size; omega) _
            have hOp := Lib.hid fun (i : Nat) (hi : i < D.length) => (World.cell?_alloc_lt wo (.cells #[.string op, .int .i64 za, .int .i64 zb, .int .i64 zv] 40) ⟨sb, so + i * 4, none⟩ hsb).trans (hc i hi).1
            clear X1 hBL hc
            rcases hnode with n1 | ⟨n1, n2⟩ | ⟨n1, qa, n4, n5, n6⟩ | ⟨n1, n2, n3, n4, qa, qb, n5, n6, n7, n8, n9⟩
            · go_wp2
              go_roundw
              case rel => exact ⟨k + 1, by omega, by go_num, hfin.out⟩
              case measure => simp [intOf]; omega
            · go_wp2
              go_roundw
              case rel => exact ⟨k + 1, by omega, by go_num, hfin.out⟩
              case measure => simp [intOf]; omega
            · subst n4
              have ca := hOp.out qa n5
              have i1 : (qa : Int) < (D.length : Int) := by omega
              have i2 : (0 : Int) ≤ (qa : Int) := by omega
              generalize D[qa].op = oa at *
              rcases n1 with n1 | ⟨n1, n1'⟩
              · go_wp2
                go_roundw
                case rel => exact ⟨k + 1, by omega, by go_num, hfin.out⟩
                case measure => simp [intOf]; omega
              · go_wp2
                go_roundw
                case rel => exact ⟨k + 1, by omega, by go_num, hfin.out⟩
                case measure => simp [intOf]; omega
            · subst n5
              subst n6
              have ca := hOp.out qa n7
              have cb := hOp.out qb n8
              have i1 : (qa : Int) < (D.length : Int) := by omega
              have i2 : (0 : Int) ≤ (qa : Int) := by omega
              have i3 : (qb : Int) < (D.length : Int) := by omega
              have i4 : (0 : Int) ≤ (qb : Int) := by omega
              generalize D[qa].op = oa at *
              generalize D[qb].op = ob at *
              rcases n9 with n9 | ⟨n9, n9'⟩
              · go_wp2
                go_roundw
                case rel => exact ⟨k + 1, by omega, by go_num, hfin.out⟩
                case measure => simp [intOf]; omega
              · go_wp2
                go_roundw
                case rel => exact ⟨k + 1, by omega, by go_num, hfin.out⟩
                case measure => simp [intOf]; omega
          · obtain rfl : k = D.length := by omega
            go_wp2
            go_ret
            exact ⟨rfl, hB.out⟩
      · go_wp2
        clear g1 g2 l1
        go_loopw [191] (fun i wr => ∃ k : Nat, k ≤ D.length ∧ i = .int .i64 k ∧ Below w20.heap.size w20 wr) (fun i _ => D.length - (intOf i).toNat)
        case atStart => exact ⟨0, Nat.zero_le _, rfl, Below.refl _ _⟩
        case round =>
          obtain ⟨k, hk, rfl, hbe⟩ := hrel
          generalize hQo : wr = wo at *
          clear hQo
          have hBL := Lib.hid hbe
          replace h_e := Lib.hid (h_e.out.upE hbe)
          replace h_s := Lib.hid (h_s.out.upE hbe)
          replace hB := Lib.hid (hB.out.trans (hbe.mono hB.out.size))
          clear hbe
          by_cases hkt : k < D.length
          · obtain ⟨sb, so, rfl, ⟨_, hsb⟩, hc⟩ := h_s.out.ns (by omega)
            obtain ⟨c1, c2, c3, c4⟩ := hc k hkt
            have hnode := fo_node f2.out hkt (f7.out k hkt)
            have hki : (k : Int) < (D.length : Int) := by omega
            have hk0 : (0 : Int) ≤ (k : Int) := by omega
            generalize hz : D[k] = z at *
            clear hz
            obtain ⟨op, za, zb, zv⟩ := z
            dsimp only at c1 c2 c3 c4 hnode
            have X1 : XN (wo.alloc (.cells #[.string op, .int .i64 za, .int .i64 zb, .int .i64 zv] 40)) wo.heap.size ⟨op, za, zb, zv⟩ := xn_new wo ⟨op, za, zb, zv⟩
            obtain ⟨m1, m2, m3, m4⟩ := X1.cells
            simp only at m1 m2 m3 m4
            have hfin : Hid (Below w20.heap.size w20 (wo.alloc (.cells #[.string op, .int .i64 za, .int .i64 zb, .int .i64 zv] 40))) := hBL.out.alloc (by have := hBL.out.size; omega) _
            have hOp := Lib.hid fun (i : Nat) (hi : i < D.length) => (World.cell?_alloc_lt wo (.cells #[.string op, .int .i64 za, .int .i64 zb, .int .i64 zv] 40) ⟨sb, so + i * 4, none⟩ hsb).trans (hc i hi).1
            clear X1 hBL hc
            rcases hnode with n1 | ⟨n1, n2⟩ | ⟨n1, qa, n4, n5, n6⟩ | ⟨n1, n2, n3, n4, qa, qb, n5, n6, n7, n8, n9⟩
            · go_wp2
              go_roundw
              case rel => exact ⟨k + 1, by omega, by go_num, hfin.out⟩
              case measure => simp [intOf]; omega
            · go_wp2
              go_roundw
              case rel => exact ⟨k + 1, by omega, by go_num, hfin.out⟩
              case measure => simp [intOf]; omega
            · subst n4
              have ca := hOp.out qa n5
              have i1 : (qa : Int) < (D.length : Int) := by omega
              have i2 : (0 : Int) ≤ (qa : Int) := by omega
              generalize D[qa].op = oa at *
              rcases n1 with n1 | ⟨n1, n1'⟩
              · go_wp2
                go_roundw
                case rel => exact ⟨k + 1, by omega, by go_num, hfin.out⟩
                case measure => simp [intOf]; omega
              · go_wp2
                go_roundw
                case rel => exact ⟨k + 1, by omega, by go_num, hfin.out⟩
                case measure => simp [intOf]; omega
            · subst n5
              subst n6
              have ca := hOp.out qa n7
              have cb := hOp.out qb n8
              have i1 : (qa : Int) < (D.length : Int) := by omega
              have i2 : (0 : Int) ≤ (qa : Int) := by omega
              have i3 : (qb : Int) < (D.length : Int) := by omega
              have i4 : (0 : Int) ≤ (qb : Int) := by omega
              generalize D[qa].op = oa at *
              generalize D[qb].op = ob at *
              rcases n9 with n9 | ⟨n9, n9'⟩
              · go_wp2
                go_roundw
                case rel => exact ⟨k + 1, by omega, by go_num, hfin.out⟩
                case measure => simp [intOf]; omega
              · go_wp2
                go_roundw
                case rel => exact ⟨k + 1, by omega, by go_num, hfin.out⟩
                case measure => simp [intOf]; omega
          · obtain rfl : k = D.length := by omega
            go_wp2
            go_ret
            exact ⟨rfl, hB.out⟩
end Go.Proofs.Ytmhdijklindipaa

/- Arguments of the types []laws.Instr, laws.Instr and []int opened. -/
namespace Go.Proofs.Ytmhdijklindipaa
open Go.ChangeShapes Go.WideShapes Go.ChangeAt Go.RowKit Go.Deep
open Go.ChangeMaps (open_string shut_string)
set_option linter.unusedVariables false

theorem cellsStr : Try.prog.cellsOf 9 = 1 := by kernel_rfl
theorem cellsInt : Try.prog.cellsOf 3 = 1 := by kernel_rfl

theorem cell_lt_heap {w : World} {a : Addr} {v : Value} (h : w.cell? a = some v) : a.block < w.heap.size := by
  rcases Nat.lt_or_ge a.block w.heap.size with hlt | hge
  · exact hlt
  · unfold World.cell? at h; rw [Array.getElem?_eq_none hge] at h; simp at h

set_option maxRecDepth 100000 in
theorem ints_of_trod {H : Type} {enc : TypeId × Value → H} {w : World} {spare : Nat → Bool} {held : Bool} {A : Option Addr} {len cap : Nat} {d : DataW H} {p : List MemPlace}
    (h : DataW.Trod enc Try.prog w 0 spare held 27 (.slice A len cap) d p) :
    ∃ xs : List Int, xs.length = len ∧ IS w 0 w.heap.size A xs ∧ len ≤ 9223372036854775807 := by
  obtain ⟨fuel, hf⟩ := h
  rcases open_slice Try.underlying27 hf with ⟨hcs, _⟩ | ⟨a, l, c, m, n, D, Pl, hcs, _, hl, hm, hmm, _, hi⟩
  · simp [Value.cells] at hcs
    obtain ⟨rfl, rfl, rfl⟩ := hcs
    exact ⟨[], rfl, fun h => absurd h (by simp), by omega⟩
  · simp [Value.cells] at hcs
    obtain ⟨rfl, rfl, rfl⟩ := hcs
    have hlm : len ≤ m := by rw [hmm]; split <;> omega
    have hex : ∀ i, i < len → ∃ x : Int, w.cell? (a.add i) = some (.int .i64 x) := by
      intro i hil
      obtain ⟨cs', hc, ht⟩ := hi i (by omega)
      rw [cellsInt, Nat.mul_one] at hc
      obtain ⟨x, hx, _, _⟩ := DataW.trod_int Try.underlying3 ht
      obtain ⟨_, _, hat⟩ := World.cells?_some hc
      have := hat 0 (by omega)
      rw [add_add, hx] at this
      exact ⟨x, by simpa using this⟩
    obtain ⟨f, hf2⟩ := Classical.axiomOfChoice (fun i : {i // i < len} => hex i.1 i.2)
    have hget : ∀ i (h : i < (List.ofFn fun i : Fin len => f ⟨i.1, i.2⟩).length), (List.ofFn fun i : Fin len => f ⟨i.1, i.2⟩)[i] = f ⟨i, by simpa using h⟩ := fun i h => by simp
    refine ⟨List.ofFn fun i : Fin len => f ⟨i.1, i.2⟩, by simp, ?_, by unfold maxLen at hm; omega⟩
    intro hpos
    have hpos' : 0 < len := by simpa using hpos
    have h0 := hf2 ⟨0, hpos'⟩
    obtain ⟨b, o, spot⟩ := a
    have hspot : spot = none := by have := World.cell?_spot h0; simpa [Addr.add] using this
    subst hspot
    have hadd : ∀ k, (⟨b, o, none⟩ : Addr).add k = ⟨b, o + k, none⟩ := fun k => by simp [Addr.add]
    refine ⟨b, o, rfl, ⟨Nat.zero_le _, ?_⟩, fun i hi => ?_⟩
    · rw [hadd] at h0
      exact cell_lt_heap h0
    · have hi' : i < len := by simpa using hi
      rw [hget i hi]
      have := hf2 ⟨i, hi'⟩
      simp only [hadd] at this
      exact this
end Go.Proofs.Ytmhdijklindipaa

/- A []byte argument opened. -/
namespace Go.Proofs.Ytmhdijklindipaa
open Go.ChangeShapes Go.WideShapes Go.ChangeAt Go.RowKit Go.Deep
set_option linter.unusedVariables false
theorem cellsByte : Try.prog.cellsOf 5 = 1 := by kernel_rfl
theorem bytes_of_trod {H : Type} {enc : TypeId × Value → H} {w : World} {spare : Nat → Bool} {held : Bool} {A : Option Addr} {len cap : Nat} {d : DataW H} {p : List MemPlace}
    (h : DataW.Trod enc Try.prog w 0 spare held 22 (.slice A len cap) d p) :
    ∃ xs : List Int, xs.length = len ∧ BY w w.heap.size A xs ∧ (∀ x ∈ xs, 0 ≤ x ∧ x ≤ 255) ∧ len ≤ 9223372036854775807 := by
  obtain ⟨fuel, hf⟩ := h
  rcases open_slice Try.underlying22 hf with ⟨hcs, _⟩ | ⟨a, l, c, m, n, D, Pl, hcs, _, hl, hm, hmm, _, hi⟩
  · simp [Value.cells] at hcs
    obtain ⟨rfl, rfl, rfl⟩ := hcs
    exact ⟨[], rfl, fun h => absurd h (by simp), fun x hx => by simp at hx, by omega⟩
  · simp [Value.cells] at hcs
    obtain ⟨rfl, rfl, rfl⟩ := hcs
    have hlm : len ≤ m := by rw [hmm]; split <;> omega
    have hex : ∀ i, i < len → ∃ x : Int, w.cell? (a.add i) = some (.int .u8 x) ∧ 0 ≤ x ∧ x ≤ 255 := by
      intro i hil
      obtain ⟨cs', hc, ht⟩ := hi i (by omega)
      rw [cellsByte, Nat.mul_one] at hc
      obtain ⟨x, hx, hb, hz⟩ := DataW.trod_int Try.underlying5 ht
      obtain ⟨_, _, hat⟩ := World.cells?_some hc
      have := hat 0 (by omega)
      rw [add_add, hx] at this
      refine ⟨x, by simpa using this, ?_⟩
      have hz2 : (decide (IntKind.u8.min ≤ x) && decide (x ≤ IntKind.u8.max)) = true := hz
      rw [show IntKind.u8.min = 0 from rfl, show IntKind.u8.max = 255 from rfl, Bool.and_eq_true, decide_eq_true_iff, decide_eq_true_iff] at hz2
      exact hz2
    obtain ⟨f, hf2⟩ := Classical.axiomOfChoice (fun i : {i // i < len} => hex i.1 i.2)
    have hget : ∀ i (h : i < (List.ofFn fun i : Fin len => f ⟨i.1, i.2⟩).length), (List.ofFn fun i : Fin len => f ⟨i.1, i.2⟩)[i] = f ⟨i, by simpa using h⟩ := fun i h => by simp
    refine ⟨List.ofFn fun i : Fin len => f ⟨i.1, i.2⟩, by simp, ?_, ?_, by unfold maxLen at hm; omega⟩
    · intro hpos
      have hpos' : 0 < len := by simpa using hpos
      have h0 := (hf2 ⟨0, hpos'⟩).1
      obtain ⟨b, o, spot⟩ := a
      have hspot : spot = none := by have := World.cell?_spot h0; simpa [Addr.add] using this
      subst hspot
      have hadd : ∀ k, (⟨b, o, none⟩ : Addr).add k = ⟨b, o + k, none⟩ := fun k => by simp [Addr.add]
      refine ⟨b, o, rfl, ?_, fun i hi => ?_⟩
      · rw [hadd] at h0
        exact cell_lt_heap h0
      · have hi' : i < len := by simpa using hi
        rw [hget i hi]
        have := (hf2 ⟨i, hi'⟩).1
        simp only [hadd] at this
        exact this
    · intro x hx
      rw [List.mem_ofFn] at hx
      obtain ⟨i, rfl⟩ := hx
      exact (hf2 ⟨i.1, i.2⟩).2
end Go.Proofs.Ytmhdijklindipaa
