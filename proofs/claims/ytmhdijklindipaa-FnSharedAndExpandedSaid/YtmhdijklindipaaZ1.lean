/- Texts of this proof, one behind the other: LawY, TV, R2, LawFS, OC, OB. -/
import Derived.Test.YtmhdijklindipaaZ9
import Derived.Test.YtmhdijklindipaaZ11
import Derived.Test.YtmhdijklindipaaLI
import Derived.WalkKit
import Derived.WalkSpells
import Derived.WalkLawsBesides
import Derived.Lib.Hide
import Derived.Test.YtmhdijklindipaaZ4
import Derived.Test.YtmhdijklindipaaG
import Derived.Deep.RegionLaw
import Derived.Deep.QuietTactic
import Derived.BigQuiet
import Derived.BigRegion
import Derived.Test.YtmhdijklindipaaZ3
import Derived.Test.YtmhdijklindipaaZ2
import Derived.Test.YtmhdijklindipaaZ8
import Derived.Deep.RegionHeld3
import Derived.Laws.StructEq
import Derived.Test.YtmhdijklindipaaKMInstr
import Derived.ProofKit
import Derived.OpenShut
import Derived.ShutString
import Derived.ChangeOld
import Derived.Below
import Derived.Deep.Slices
import Derived.Deep.Fields
import Derived.Test.YtmhdijklindipaaRows
import Derived.Test.YtmhdijklindipaaDR1
namespace Go.Proofs.Ytmhdijklindipaa
open Go.RowKit
set_option linter.unusedVariables false

def ResEvalExpr (R0 : Int) (R1 : Bool) (w : World) (e : Ending) (w' : World) : Prop := e = .returned (.tuple #[.int .i64 R0, .bool R1]) ∧ Below w.heap.size w w'
def ResValuesOf (R0 : List (Int)) (R1 : Bool) (w : World) (e : Ending) (w' : World) : Prop := ∃ (A0 : Option Addr) (c0 : Nat), e = .returned (.tuple #[.slice A0 R0.length c0, .bool R1]) ∧ OW w' w.heap.size w'.heap.size (.slice A0 R0.length c0) R0 ∧ Below w.heap.size w w'
end Go.Proofs.Ytmhdijklindipaa

namespace Go.Proofs.Ytmhdijklindipaa
open Go.RowKit
theorem iEvalExpr_k (L B : Nat) (A : Option Addr) (c : Nat) (es : List Nd) (x0 x1 : Int) (w : World) (hl : es.length ≤ 1048576) (hes : RS Nd.enc 4 w L B A es) (hB : B ≤ w.heap.size) :
    Calls Try.prog 17 #[.slice A es.length c, .int .i64 x0, .int .i64 x1] w (ResEvalExpr (evalR es x0 x1) (valsOk es x0 x1) w) := iEvalExpr_any L B A c es x0 x1 w hl hes.ns hB
theorem sValuesOf_k (L B : Nat) (A : Option Addr) (c : Nat) (es : List Nd) (x0 x1 : Int) (w : World) (hl : es.length ≤ 1048576) (hes : RS Nd.enc 4 w L B A es) (hB : B ≤ w.heap.size) :
    Calls Try.prog 16 #[.slice A es.length c, .int .i64 x0, .int .i64 x1] w (ResValuesOf (valsR es x0 x1) (valsOk es x0 x1) w) := sValuesOf_any L B A c es x0 x1 w hl hes.ns hB
theorem iValuesOf_k (L B : Nat) (A : Option Addr) (c : Nat) (es : List Nd) (x0 x1 : Int) (w : World) (hl : es.length ≤ 1048576) (hes : RS Nd.enc 4 w L B A es) (hB : B ≤ w.heap.size) :
    Calls Try.prog 15 #[.slice A es.length c, .int .i64 x0, .int .i64 x1] w (ResValuesOf (valsR es x0 x1) (valsOk es x0 x1) w) := iValuesOf_any L B A c es x0 x1 w hl hes.ns hB
end Go.Proofs.Ytmhdijklindipaa

namespace Go.Proofs.Ytmhdijklindipaa
open Go.RowKit
set_option linter.unusedVariables false

set_option maxRecDepth 100000 in
set_option maxHeartbeats 8000000 in
theorem iDepthOf_any (L B : Nat) (A : Option Addr) (c : Nat) (es : List Nd) (w : World) (hl : es.length ≤ 1048576) (hes : NS w L B A es) (hB : B ≤ w.heap.size) :
    Calls Try.prog 95 #[.slice A es.length c] w fun e w' => e = .returned (.tuple #[.int .i64 (depR es), .bool (good es)]) ∧ Below w.heap.size w w' := by
  have H := Lib.hid (IsExpr_any L B A c es w hl hes hB)
  have hE := Lib.hid hes
  have hBB := Lib.hid hB
  clear hes hB
  cases hg : good es
  · have hR2 : Hid (depR es = 0) := by simp [Hid, depR, hg]
    go_enter Try.func95, Try.ntmps95
    go_wp2_with (fail)
    refine H.out.mono ?_
    rintro e w2 ⟨rfl, hb⟩
    have hbb := Lib.hid hb
    clear hb
    go_wp2_with (fail)
    go_ret2
    exact ⟨by rw [hR2.out]; rfl, hbb.out⟩
  have hR2 : Hid (depR es = (depAt es es.length).getD (es.length - 1) 0) := by simp [Hid, depR, hg]
  obtain ⟨hl1, hl24, hok⟩ := good_len hg
  have hP := Lib.hid (ok_parts hok)
  have hmk := run_make_ints es.length (by omega)
  clear hok
  go_enter Try.func95, Try.ntmps95
  go_wp2_with (fail)
  refine H.out.mono ?_
  rintro e w2 ⟨rfl, hb⟩
  have hbb := Lib.hid hb
  have hsz := hb.size
  clear hb
  have hU0 : Hid (IB (w2.alloc (.cells (intCells (zeros es.length)) 3)) w2.heap.size 3 (depAt es 0)) := heap_alloc_new w2 _
  have hBel0 := Lib.hid ((Below.refl w2.heap.size w2).alloc (Nat.le_refl _) (.cells (intCells (zeros es.length)) 3))
  have hE2 : Hid (NS w2 L B A es) := hE.out.below hbb.out hBB.out
  have hB2 : B ≤ w2.heap.size := Nat.le_trans hBB.out hsz
  go_wp2
  go_loopw [17] (fun i wr => ∃ k : Nat, k ≤ es.length ∧ i = .int .i64 k ∧ IB wr w2.heap.size 3 (depAt es k) ∧ Below w2.heap.size w2 wr) (fun i _ => es.length - (intOf i).toNat)
  case atStart => exact ⟨0, Nat.zero_le _, rfl, hU0.out, hBel0.out⟩
  case round =>
    obtain ⟨k, hk, rfl, hib, hbel⟩ := hrel
    have hIB := Lib.hid hib
    have hglt := hib.lt
    clear hib hmk hBel0 hU0
    by_cases hlt : k < es.length
    · obtain ⟨b, o, rfl, ⟨_, hbB⟩, hc⟩ := (hE2.out.below hbel hB2) (by omega)
      obtain ⟨c1, c2, c3, c4⟩ := hc k hlt
      clear hc
      have hPk : Hid (∀ p ∈ parts es[k], 0 ≤ p ∧ p < es.length) := hP.out _ (List.getElem_mem hlt)
      have hSk := Lib.hid (depAt_succ hlt)
      have hBd := Lib.hid (depAt_Bd (es := es) (k := k) hk)
      have hLen := Lib.hid (depAt_len es k)
      have hp2 := parts_len es[k]
      clear hP
      generalize hnd : es[k] = nd at *
      obtain ⟨s, a, bb, v⟩ := nd
      clear hnd
      go_wp2_with (fail)
      refine (operandsOf_any _ _ _ _ _).mono ?_
      rintro e w3 ⟨A2, cc, rfl, hIS, hb2⟩
      have hI2 := Lib.hid hIS
      have hbel2 : Below w2.heap.size w2 w3 := hbel.trans (((Below.refl _ _).alloc hbel.size _).trans (hb2.mono (by simp; have := hbel.size; omega)))
      have hIB2 : Hid (IB w3 w2.heap.size 3 (depAt es k)) := (show IB _ _ _ _ from hIB.out).below ((Below.refl wr.heap.size wr).alloc (Nat.le_refl _) _ |>.trans (hb2.mono (by simp))) hglt
      have hsz2 := hb2.size
      simp at hsz2
      clear hIS hb2 hIB c1 c2 c3 c4 hbel
      generalize hps : parts ⟨s, a, bb, v⟩ = ps at *
      clear hps
      go_wp2_with (fail)
      go_loopw [25] (fun i wi => ∃ j : Nat, j ≤ ps.length ∧ i = .int .i64 j ∧ IB wi w2.heap.size 3 ((ps.take j).foldl (dstep k) (depAt es k)) ∧ Below w2.heap.size w2 wi ∧ IS wi (w2.heap.size + 1) wi.heap.size A2 ps) (fun i _ => ps.length - (intOf i).toNat)
      case atStart =>
        refine ⟨0, Nat.zero_le _, rfl, hIB2.out, hbel2, hI2.out.more ?_ (Nat.le_refl _)⟩
        simp; omega
      case round =>
        obtain ⟨j, hj, rfl, hib, hbel3, his⟩ := hrel
        have hIB3 := Lib.hid hib
        have hIS3 := Lib.hid his
        have hBel3 := Lib.hid hbel3
        clear hib his hbel3
        by_cases hjt : j < ps.length
        · obtain ⟨b2, o2, rfl, hbb2, hc⟩ := hIS3.out (by omega)
          have hcj := hc j hjt
          obtain ⟨hq0, hq1⟩ := hPk.out _ (List.getElem_mem hjt)
          obtain ⟨q, hq⟩ := Int.eq_ofNat_of_zero_le hq0
          have hql : q < es.length := by omega
          rw [hq] at hcj
          have hQ := Lib.hid hq
          clear hc hq hq0 hq1
          have hlen3 : ((ps.take j).foldl (dstep k) (depAt es k)).length = es.length := by rw [foldl_dstep_len]; exact hLen.out
          have hcu := hIB3.out.cell q (by rw [hlen3]; exact hql)
          have hck := hIB3.out.cell k (by rw [hlen3]; exact hlt)
          have hfk := hIB3.out.frozen k
          have hbd3 := (foldl_dstep_Bd k (ps.take j) hBd.out) q
          have hbd4 := (foldl_dstep_Bd k (ps.take j) hBd.out) k
          have hlj : (ps.take j).length ≤ 2 := by rw [List.length_take]; omega
          have hsnoc : (ps.take (j + 1)).foldl (dstep k) (depAt es k) = ((ps.take j).foldl (dstep k) (depAt es k)).set k (max (((ps.take j).foldl (dstep k) (depAt es k)).getD k 0) (((ps.take j).foldl (dstep k) (depAt es k)).getD q 0 + 1)) := by
            rw [List.take_succ_eq_append_getElem hjt, List.foldl_append, hQ.out]; rfl
          have hS3 := Lib.hid hsnoc
          generalize (ps.take j).foldl (dstep k) (depAt es k) = us at *
          have hcu' : wr.cell? ⟨w2.heap.size, q, none⟩ = some (.int .i64 (us.getD q 0)) := by
            rw [hcu, List.getD_eq_getElem?_getD, List.getElem?_eq_getElem (by omega)]; rfl
          have hck' : wr.cell? ⟨w2.heap.size, k, none⟩ = some (.int .i64 (us.getD k 0)) := by
            rw [hck, List.getD_eq_getElem?_getD, List.getElem?_eq_getElem (by omega)]; rfl
          clear hcu hck hsnoc hlen3
          generalize us.getD q 0 = x at *
          generalize us.getD k 0 = y at *
          obtain ⟨hx0, hx1⟩ := hbd3
          obtain ⟨hy0, hy1⟩ := hbd4
          have hx2 : x ≤ 1000 := by omega
          have hy2 : y ≤ 1000 := by omega
          clear hx1 hy1
          have hkeep : ∀ (z : Int) (p : Addr), p.block ≠ w2.heap.size → (wr.setCell ⟨w2.heap.size, k, none⟩ (.int .i64 z)).cell? p = wr.cell? p := fun z p hne => World.cell?_setCell_other wr _ p _ (fun e => by subst e; exact hne rfl)
          have hK := Lib.hid hkeep
          clear hkeep
          have i1 : (q : Int) < (es.length : Int) := by omega
          have i2 : (0 : Int) ≤ (q : Int) := by omega
          have i3 : (k : Int) < (es.length : Int) := by omega
          have i4 : (0 : Int) ≤ (k : Int) := by omega
          have i5 : IntKind.i64.wrap (x + 1) = x + 1 := by rw [IntKind.wrap_i64]; omega
          go_wp2_with (fail)
          go_region
          all_goals
            go_wp2
            go_roundw
            case rel =>
              have hmx : (if y < x + 1 then x + 1 else y) = max y (x + 1) := by split <;> omega
              try simp only [hmx]
              refine ⟨j + 1, by omega, by go_num, ?_, (hBel3.out.setCell (Nat.le_refl _) _).drew, ?_⟩
              · rw [hS3.out]; exact hIB3.out.set k (max y (x + 1))
              · have := hIS3.out.keep (w' := wr.setCell ⟨w2.heap.size, k, none⟩ (.int .i64 (max y (x + 1)))) fun p hp _ => hK.out _ p (by omega)
                exact this.more (Nat.le_refl _) (by simp [World.setCell])
            case measure => simp [intOf]; omega
        · obtain rfl : j = ps.length := by omega
          go_wp2
          go_roundw
          case rel =>
            refine ⟨k + 1, by omega, by go_num, ?_, hBel3.out⟩
            have := hIB3.out
            rw [List.take_length] at this
            rw [hSk.out]; exact this
          case measure => simp [intOf]; omega
    · obtain rfl : k = es.length := by omega
      obtain ⟨m, hm⟩ : ∃ m, es.length = m + 1 := ⟨es.length - 1, by omega⟩
      have hlen := depAt_len es es.length
      have hR3 := hR2.out
      have hib := hIB.out
      clear hIB hR2
      generalize depAt es es.length = D at *
      have hcm := hib.cell m (by omega)
      have hRm : depR es = D[m]'(by omega) := by
        rw [hR3, List.getD_eq_getElem?_getD, show es.length - 1 = m by omega, List.getElem?_eq_getElem (by omega)]; rfl
      generalize D[m]'(by omega) = z at *
      have hRm := Lib.hid hRm
      have HB := Lib.hid (hbb.out.trans (hbel.mono hsz))
      clear hlen hR3 hib
      rw [hm]
      go_wp2
      go_ret2
      exact ⟨by rw [hRm.out]; rfl, HB.out⟩
end Go.Proofs.Ytmhdijklindipaa

/- FnSharedAndExpanded: sharing and expanding keep the values; sharing what is expanded gives the shared one. -/
namespace Go.Proofs.Ytmhdijklindipaa
open Go.RowKit
set_option linter.unusedVariables false
set_option maxRecDepth 100000

set_option maxHeartbeats 16000000 in
theorem fnSharedAndExpanded_go (A A' : Option Addr) (c c' : Nat) (bs bs' : List Int) (w : World) (hbl : bs.length + bs'.length ≤ 1048576) (ha : ∀ x ∈ bs, 0 ≤ x ∧ x ≤ 255) (ha' : ∀ x ∈ bs', 0 ≤ x ∧ x ≤ 255) (hy : BY w w.heap.size A bs) (hy' : BY w w.heap.size A' bs') :
    Calls Try.prog 10 #[.slice A bs.length c, .slice A' bs'.length c'] w fun e w' => e = .returned (.bool true) ∧ Below w.heap.size w w' := by
  have hB := Lib.hid (Below.refl w.heap.size w)
  have hBY := Lib.hid fun (W : World) (hW : Below w.heap.size w W) => ((hy.keep fun j hj => hW.block j hj).more hW.size : BY W W.heap.size A bs)
  have hBY' := Lib.hid fun (W : World) (hW : Below w.heap.size w W) => ((hy'.keep fun j hj => hW.block j hj).more hW.size : BY W W.heap.size A' bs')
  have HBig := Lib.hid (big_no A A' bs.length bs'.length c c' w (by omega) (by omega) hbl)
  have hA := Lib.hid ha
  have hA' := Lib.hid ha'
  clear hy hy' ha ha'
  go_enter Try.func10, Try.ntmps10
  go_wp2_with (fail)
  refine HBig.out.mono ?_
  rintro e w0 ⟨rfl, rfl⟩
  clear HBig
  have H := Lib.hid (DrawShareExpr_d A c bs w (by omega) hA.out (hBY.out w hB.out))
  go_wp2_with (fail)
  refine (H.out).mono ?_
  rintro e w1 ⟨_, xe, rfl, ⟨Ae, ce, rfl, ne, ke, re⟩, hbe⟩
  replace hB := Lib.hid (hB.out.trans (hbe.mono hB.out.size))
  have h_e := Lib.hid (re.more (Nat.zero_le _) (Nat.le_refl _))
  clear hbe H
  have hke := Lib.hid ke
  clear re ke
  have hJ : ∃ J, good xe = J := ⟨_, rfl⟩
  obtain ⟨J, hJ⟩ := hJ
  replace hJ := Lib.hid hJ
  have hE : ∃ E, expandOk xe = E := ⟨_, rfl⟩
  obtain ⟨E, hE⟩ := hE
  replace hE := Lib.hid hE
  have hsl := Lib.hid (shareR_len xe)
  have hxl := Lib.hid (expandR_len xe)
  have hq9 := iShareExpr_k 0 w1.heap.size Ae ce xe w1 (by omega) h_e.out (Nat.le_refl _) hke.out
  rw [hJ.out] at hq9
  have H := Lib.hid hq9
  clear hq9
  go_wp2_with (fail)
  refine (H.out).mono ?_
  rintro e w2 ⟨As, cs, rfl, o9, hbe⟩
  replace h_e := Lib.hid (h_e.out.upE hbe)
  replace hB := Lib.hid (hB.out.trans (hbe.mono hB.out.size))
  have h_s := Lib.hid ((OK.rsN o9).more (Nat.zero_le _) (Nat.le_refl _))
  have hks := Lib.hid (OK.capN o9)
  clear hbe H
  clear o9
  have hq9 := sShareExpr_k 0 w2.heap.size Ae ce xe w2 (by omega) h_e.out (Nat.le_refl _)
  rw [hJ.out] at hq9
  have H := Lib.hid hq9
  clear hq9
  go_wp2_with (fail)
  refine (H.out).mono ?_
  rintro e w3 ⟨Aq, cq, rfl, o9, hbe⟩
  replace h_e := Lib.hid (h_e.out.upE hbe)
  replace h_s := Lib.hid (h_s.out.upE hbe)
  replace hB := Lib.hid (hB.out.trans (hbe.mono hB.out.size))
  have h_q := Lib.hid ((OK.rsN o9).more (Nat.zero_le _) (Nat.le_refl _))
  clear hbe H
  clear o9
  have hq9 := iExpandExpr_k 0 w3.heap.size Ae ce xe w3 (by omega) h_e.out (Nat.le_refl _) hke.out
  rw [hE.out] at hq9
  have H := Lib.hid hq9
  clear hq9
  go_wp2_with (fail)
  refine (H.out).mono ?_
  rintro e w4 ⟨At, ct, rfl, o9, hbe⟩
  replace h_e := Lib.hid (h_e.out.upE hbe)
  replace h_s := Lib.hid (h_s.out.upE hbe)
  replace h_q := Lib.hid (h_q.out.upE hbe)
  replace hB := Lib.hid (hB.out.trans (hbe.mono hB.out.size))
  have h_t := Lib.hid ((OK.rsN o9).more (Nat.zero_le _) (Nat.le_refl _))
  have hkT := Lib.hid (OK.capN o9)
  clear hbe H
  clear o9
  have hq9 := sExpandExpr_k 0 w4.heap.size Ae ce xe w4 (by omega) h_e.out (Nat.le_refl _)
  rw [hE.out] at hq9
  have H := Lib.hid hq9
  clear hq9
  go_wp2_with (fail)
  refine (H.out).mono ?_
  rintro e w5 ⟨Au, cu, rfl, o9, hbe⟩
  replace h_e := Lib.hid (h_e.out.upE hbe)
  replace h_s := Lib.hid (h_s.out.upE hbe)
  replace h_q := Lib.hid (h_q.out.upE hbe)
  replace h_t := Lib.hid (h_t.out.upE hbe)
  replace hB := Lib.hid (hB.out.trans (hbe.mono hB.out.size))
  have h_u := Lib.hid ((OK.rsN o9).more (Nat.zero_le _) (Nat.le_refl _))
  clear hbe H
  clear o9
  have e1 : (J != J) = false := by simp
  have e2 : (E != E) = false := by simp
  have H := Lib.hid (pSameExpr_eq 0 w5.heap.size 0 w5.heap.size As Aq _ _ cs cq (shareR xe) w5 rfl rfl (hsl.out) h_s.out h_q.out)
  go_wp2_with (fail)
  refine (H.out).mono ?_
  rintro e w6 ⟨rfl, n, hn⟩
  have hbe := yes_below hn
  clear hn n
  replace h_e := Lib.hid (h_e.out.upE hbe)
  replace h_s := Lib.hid (h_s.out.upE hbe)
  replace h_q := Lib.hid (h_q.out.upE hbe)
  replace h_t := Lib.hid (h_t.out.upE hbe)
  replace h_u := Lib.hid (h_u.out.upE hbe)
  replace hB := Lib.hid (hB.out.trans (hbe.mono hB.out.size))
  clear hbe H
  clear h_q
  have H := Lib.hid (pSameExpr_eq 0 w6.heap.size 0 w6.heap.size At Au _ _ ct cu (expandR xe) w6 rfl rfl (hxl.out) h_t.out h_u.out)
  go_wp2_with (fail)
  refine (H.out).mono ?_
  rintro e w7 ⟨rfl, n, hn⟩
  have hbe := yes_below hn
  clear hn n
  replace h_e := Lib.hid (h_e.out.upE hbe)
  replace h_s := Lib.hid (h_s.out.upE hbe)
  replace h_t := Lib.hid (h_t.out.upE hbe)
  replace h_u := Lib.hid (h_u.out.upE hbe)
  replace hB := Lib.hid (hB.out.trans (hbe.mono hB.out.size))
  clear hbe H
  clear h_u
  have hq9 := IsExpr_any 0 w7.heap.size Ae ce xe w7 (by omega) h_e.out.ns (Nat.le_refl _)
  rw [hJ.out] at hq9
  have H := Lib.hid hq9
  clear hq9
  go_wp2_with (fail)
  refine (H.out).mono ?_
  rintro e w8 ⟨rfl, hbe⟩
  replace h_e := Lib.hid (h_e.out.upE hbe)
  replace h_s := Lib.hid (h_s.out.upE hbe)
  replace h_t := Lib.hid (h_t.out.upE hbe)
  replace hB := Lib.hid (hB.out.trans (hbe.mono hB.out.size))
  clear hbe H
  have H := Lib.hid (DrawSubExpr_d A' c' bs' w8 (by omega) hA'.out (hBY'.out _ hB.out))
  go_wp2_with (fail)
  refine (H.out).mono ?_
  rintro e w9 ⟨_, xf, i, rfl, ⟨Af, cf, rfl, nf, kf, rf⟩, hi, hbe⟩
  replace h_e := Lib.hid (h_e.out.upE hbe)
  replace h_s := Lib.hid (h_s.out.upE hbe)
  replace h_t := Lib.hid (h_t.out.upE hbe)
  replace hB := Lib.hid (hB.out.trans (hbe.mono hB.out.size))
  have h_f := Lib.hid (rf.more (Nat.zero_le _) (Nat.le_refl _))
  clear hbe H
  have hkf := Lib.hid kf
  clear rf kf hi
  have hT : ∃ T, subOk xf i = T := ⟨_, rfl⟩
  obtain ⟨T, hT⟩ := hT
  replace hT := Lib.hid hT
  have hpl := Lib.hid (subR_len xf i)
  have hq9 := iSubExpr_k 0 w9.heap.size Af cf xf i w9 (by omega) h_f.out (Nat.le_refl _) hkf.out
  rw [hT.out] at hq9
  have H := Lib.hid hq9
  clear hq9
  go_wp2_with (fail)
  refine (H.out).mono ?_
  rintro e w10 ⟨Ap, cp, rfl, o9, hbe⟩
  replace h_e := Lib.hid (h_e.out.upE hbe)
  replace h_s := Lib.hid (h_s.out.upE hbe)
  replace h_t := Lib.hid (h_t.out.upE hbe)
  replace h_f := Lib.hid (h_f.out.upE hbe)
  replace hB := Lib.hid (hB.out.trans (hbe.mono hB.out.size))
  have h_p := Lib.hid ((OK.rsN o9).more (Nat.zero_le _) (Nat.le_refl _))
  clear hbe H
  clear o9
  have hq9 := sSubExpr_k 0 w10.heap.size Af cf xf i w10 (by omega) h_f.out (Nat.le_refl _)
  rw [hT.out] at hq9
  have H := Lib.hid hq9
  clear hq9
  go_wp2_with (fail)
  refine (H.out).mono ?_
  rintro e w11 ⟨Ar, cr, rfl, o9, hbe⟩
  replace h_e := Lib.hid (h_e.out.upE hbe)
  replace h_s := Lib.hid (h_s.out.upE hbe)
  replace h_t := Lib.hid (h_t.out.upE hbe)
  replace h_f := Lib.hid (h_f.out.upE hbe)
  replace h_p := Lib.hid (h_p.out.upE hbe)
  replace hB := Lib.hid (hB.out.trans (hbe.mono hB.out.size))
  have h_r := Lib.hid ((OK.rsN o9).more (Nat.zero_le _) (Nat.le_refl _))
  clear hbe H
  clear o9
  have e3 : (T != T) = false := by simp
  have H := Lib.hid (pSameExpr_eq 0 w11.heap.size 0 w11.heap.size Ap Ar _ _ cp cr (subR xf i) w11 rfl rfl (hpl.out) h_p.out h_r.out)
  go_wp2_with (fail)
  refine (H.out).mono ?_
  rintro e w12 ⟨rfl, n, hn⟩
  have hbe := yes_below hn
  clear hn n
  replace h_e := Lib.hid (h_e.out.upE hbe)
  replace h_s := Lib.hid (h_s.out.upE hbe)
  replace h_t := Lib.hid (h_t.out.upE hbe)
  replace h_f := Lib.hid (h_f.out.upE hbe)
  replace h_p := Lib.hid (h_p.out.upE hbe)
  replace h_r := Lib.hid (h_r.out.upE hbe)
  replace hB := Lib.hid (hB.out.trans (hbe.mono hB.out.size))
  clear hbe H
  clear h_r
  cases T
  · clear h_p h_f
    cases J
    · go_wp2
      go_ret
      exact ⟨rfl, hB.out⟩
    · obtain ⟨f1, f2, f3, f4, f5, f6, f7, f8⟩ := fs_share hJ.out
      replace f2 := Lib.hid f2
      replace f3 := Lib.hid f3
      replace f4 := Lib.hid f4
      replace f5 := Lib.hid f5
      replace f6 := Lib.hid f6
      replace f7 := Lib.hid f7
      replace f8 := Lib.hid f8
      rw [f1] at h_s
      rw [f1]
      rw [f1] at hks hsl
      clear f1
      generalize hSS : shareL xe = S at *
      have hSS9 := Lib.hid hSS
      clear hSS
      have hs24 : S.length ≤ 64 := by have := f7.out; omega
      have htl : Hid ((tab xe).length ≤ 1048576) := by unfold Hid tab; rw [tabTo_len]; omega
      generalize hTab : tab xe = TB at *
      have hTB9 := Lib.hid hTab
      clear hTab
      have hq9 := pTable_any 0 w12.heap.size Ae ce xe w12 (by omega) h_e.out (Nat.le_refl _)
      rw [f6.out] at hq9
      have H := Lib.hid hq9
      clear hq9
      go_wp2_with (fail)
      refine (H.out).mono ?_
      rintro e w13 ⟨Ab, cb, rfl, ob, hbe⟩
      replace h_e := Lib.hid (h_e.out.upE hbe)
      replace h_s := Lib.hid (h_s.out.upE hbe)
      replace h_t := Lib.hid (h_t.out.upE hbe)
      replace hB := Lib.hid (hB.out.trans (hbe.mono hB.out.size))
      have h_b := Lib.hid (IS.more (OW.rs ob) (Nat.zero_le _) (Nat.le_refl _))
      clear hbe H
      clear ob
      have hq9 := iShareExpr_k 0 w13.heap.size As cs S w13 (by omega) h_s.out (Nat.le_refl _) hks.out
      rw [f2.out] at hq9
      rw [f3.out] at hq9
      have H := Lib.hid hq9
      clear hq9
      go_wp2_with (fail)
      refine (H.out).mono ?_
      rintro e w14 ⟨Aa, ca, rfl, o9, hbe⟩
      replace h_e := Lib.hid (h_e.out.upE hbe)
      replace h_s := Lib.hid (h_s.out.upE hbe)
      replace h_t := Lib.hid (h_t.out.upE hbe)
      replace h_b := Lib.hid (h_b.out.upD hbe)
      replace hB := Lib.hid (hB.out.trans (hbe.mono hB.out.size))
      have h_a := Lib.hid ((OK.rsN o9).more (Nat.zero_le _) (Nat.le_refl _))
      clear hbe H
      clear o9
      have hq9 := iDepthOf_any 0 w14.heap.size Ae ce xe w14 (by omega) h_e.out.ns (Nat.le_refl _)
      rw [hJ.out] at hq9
      have H := Lib.hid hq9
      clear hq9
      go_wp2_with (fail)
      refine (H.out).mono ?_
      rintro e w15 ⟨rfl, hbe⟩
      replace h_e := Lib.hid (h_e.out.upE hbe)
      replace h_s := Lib.hid (h_s.out.upE hbe)
      replace h_t := Lib.hid (h_t.out.upE hbe)
      replace h_b := Lib.hid (h_b.out.upD hbe)
      replace h_a := Lib.hid (h_a.out.upE hbe)
      replace hB := Lib.hid (hB.out.trans (hbe.mono hB.out.size))
      clear hbe H
      have hq9 := iDepthOf_any 0 w15.heap.size As cs S w15 (by omega) h_s.out.ns (Nat.le_refl _)
      rw [f2.out] at hq9
      rw [f4.out] at hq9
      have H := Lib.hid hq9
      clear hq9
      go_wp2_with (fail)
      refine (H.out).mono ?_
      rintro e w16 ⟨rfl, hbe⟩
      replace h_e := Lib.hid (h_e.out.upE hbe)
      replace h_s := Lib.hid (h_s.out.upE hbe)
      replace h_t := Lib.hid (h_t.out.upE hbe)
      replace h_b := Lib.hid (h_b.out.upD hbe)
      replace h_a := Lib.hid (h_a.out.upE hbe)
      replace hB := Lib.hid (hB.out.trans (hbe.mono hB.out.size))
      clear hbe H
      have l1 : ¬ (xe.length : Int) < (S.length : Int) := by have := f7.out; omega
      have l2 : ¬ xe.length < S.length := by have := f7.out; omega
      have l3 : decide (xe.length < S.length) = false := decide_eq_false l2
      have H := Lib.hid (pSameExpr_eq 0 w16.heap.size 0 w16.heap.size Aa As _ _ ca cs (S) w16 rfl rfl (by omega) h_a.out h_s.out)
      go_wp2_with (fail)
      refine (H.out).mono ?_
      rintro e w17 ⟨rfl, n, hn⟩
      have hbe := yes_below hn
      clear hn n
      replace h_e := Lib.hid (h_e.out.upE hbe)
      replace h_s := Lib.hid (h_s.out.upE hbe)
      replace h_t := Lib.hid (h_t.out.upE hbe)
      replace h_b := Lib.hid (h_b.out.upD hbe)
      replace h_a := Lib.hid (h_a.out.upE hbe)
      replace hB := Lib.hid (hB.out.trans (hbe.mono hB.out.size))
      clear hbe H
      clear h_a
      have hq9 := pTable_any 0 w17.heap.size As cs S w17 (by omega) h_s.out (Nat.le_refl _)
      rw [f5.out] at hq9
      have H := Lib.hid hq9
      clear hq9
      go_wp2_with (fail)
      refine (H.out).mono ?_
      rintro e w18 ⟨Ac, cc, rfl, ob, hbe⟩
      replace h_e := Lib.hid (h_e.out.upE hbe)
      replace h_s := Lib.hid (h_s.out.upE hbe)
      replace h_t := Lib.hid (h_t.out.upE hbe)
      replace h_b := Lib.hid (h_b.out.upD hbe)
      replace hB := Lib.hid (hB.out.trans (hbe.mono hB.out.size))
      have h_c := Lib.hid (IS.more (OW.rs ob) (Nat.zero_le _) (Nat.le_refl _))
      clear hbe H
      clear ob
      have H := Lib.hid (pSame_eq 0 w18.heap.size 0 w18.heap.size Ac Ab _ _ cc cb TB w18 rfl rfl htl.out h_c.out h_b.out)
      go_wp2_with (fail)
      refine (H.out).mono ?_
      rintro e w19 ⟨rfl, n, hn⟩
      have hbe := yes_below hn
      clear hn n
      replace h_e := Lib.hid (h_e.out.upE hbe)
      replace h_s := Lib.hid (h_s.out.upE hbe)
      replace h_t := Lib.hid (h_t.out.upE hbe)
      replace h_b := Lib.hid (h_b.out.upD hbe)
      replace h_c := Lib.hid (h_c.out.upD hbe)
      replace hB := Lib.hid (hB.out.trans (hbe.mono hB.out.size))
      clear hbe H
      clear h_c
      have hgd := nd_guard
      go_wp2
      clear l1 l2 l3
      go_loopw [207] (fun i wr => ∃ k : Nat, k ≤ S.length ∧ i = .int .i64 k ∧ Below w19.heap.size w19 wr) (fun i _ => S.length - (intOf i).toNat)
      case atStart => exact ⟨0, Nat.zero_le _, rfl, Below.refl _ _⟩
      case round =>
        obtain ⟨k, hk, rfl, hbe⟩ := hrel
        generalize hQo : wr = wo at *
        clear hQo
        have hBL := Lib.hid hbe
        replace h_e := Lib.hid (h_e.out.upE hbe)
        replace h_s := Lib.hid (h_s.out.upE hbe)
        replace h_t := Lib.hid (h_t.out.upE hbe)
        replace h_b := Lib.hid (h_b.out.upD hbe)
        replace hB := Lib.hid (hB.out.trans (hbe.mono hB.out.size))
        clear hbe
        by_cases hkt : k < S.length
        · obtain ⟨sb, so, hAs, ⟨_, hsb⟩, hc⟩ := h_s.out.ns (by omega)
          obtain ⟨c1, c2, c3, c4⟩ := hc k hkt
          have hSn := Lib.hid f8.out
          subst hAs
          have hHC := Lib.hid hc
          clear hc
          have hki : (k : Int) < (S.length : Int) := by omega
          have hk0 : (0 : Int) ≤ (k : Int) := by omega
          have hkc : (k : Int) ≤ (cs : Int) := by have := hks.out; omega
          have hkc2 : k ≤ cs := by have := hks.out; omega
          have hSk := Lib.hid fun (j : Nat) (hj : j < k) => (show sameN S[k] (S[j]'(by omega)) = false by have h := hSn.out j k hj hkt; rw [getD_nd hkt, getD_nd (show j < S.length by omega)] at h; exact h)
          generalize hz : S[k] = z at *
          clear hz
          obtain ⟨op, za, zb, zv⟩ := z
          dsimp only at c1 c2 c3 c4
          have B1 := Lib.hid ((Below.refl wo.heap.size wo).alloc (Nat.le_refl _) (.cells #[.string op, .int .i64 za, .int .i64 zb, .int .i64 zv] 40))
          have X1 : Hid (XN (wo.alloc (.cells #[.string op, .int .i64 za, .int .i64 zb, .int .i64 zv] 40)) wo.heap.size ⟨op, za, zb, zv⟩) := xn_new wo ⟨op, za, zb, zv⟩
          go_wp2_with (fail)
          generalize wo.alloc (.cells #[.string op, .int .i64 za, .int .i64 zb, .int .i64 zv] 40) = W1 at *
          go_loopw [216] (fun i wr => ∃ j : Nat, j ≤ k ∧ i = .int .i64 j ∧ Below wo.heap.size wo wr ∧ XN wr wo.heap.size ⟨op, za, zb, zv⟩) (fun i _ => k - (intOf i).toNat)
          case atStart => exact ⟨0, Nat.zero_le _, rfl, B1.out, X1.out⟩
          case round =>
            obtain ⟨j, hj, rfl, hbe, hX⟩ := hrel
            by_cases hjk : j < k
            · obtain ⟨d1, d2, d3, d4⟩ := hHC.out j (by omega)
              replace d1 := (hbe.cell (p := ⟨sb, so + j * 4, none⟩) hsb).trans d1
              replace d2 := (hbe.cell (p := ⟨sb, so + j * 4 + 1, none⟩) hsb).trans d2
              replace d3 := (hbe.cell (p := ⟨sb, so + j * 4 + 2, none⟩) hsb).trans d3
              replace d4 := (hbe.cell (p := ⟨sb, so + j * 4 + 3, none⟩) hsb).trans d4
              have hne := hSk.out j hjk
              generalize hy9 : S[j]'(by omega) = y at *
              clear hy9
              obtain ⟨op', ya, yb, yv⟩ := y
              dsimp only at d1 d2 d3 d4
              have hEq : ∀ W : World, (Op.equalIn 10000 40 (.agg #[.string op, .int .i64 za, .int .i64 zb, .int .i64 zv]) (.agg #[.string op', .int .i64 ya, .int .i64 yb, .int .i64 yv])).run Try.prog W = .ok false W := fun W => (equalIn_nd op op' za zb zv ya yb yv W).trans (by rw [show sameN ⟨op, za, zb, zv⟩ ⟨op', ya, yb, yv⟩ = false from hne])
              have hji : (j : Int) < (k : Int) := by omega
              have hj0 : (0 : Int) ≤ (j : Int) := by omega
              have X2 := hX.next ((Below.refl wr.heap.size wr).alloc (Nat.le_refl _) (.cells #[.string op', .int .i64 ya, .int .i64 yb, .int .i64 yv] 40))
              have Y2 : XN (wr.alloc (.cells #[.string op', .int .i64 ya, .int .i64 yb, .int .i64 yv] 40)) wr.heap.size ⟨op', ya, yb, yv⟩ := xn_new wr ⟨op', ya, yb, yv⟩
              obtain ⟨x1, x2, x3, x4⟩ := X2.cells
              obtain ⟨y1, y2, y3, y4⟩ := Y2.cells
              simp only at x1 x2 x3 x4 y1 y2 y3 y4
              have hB2 := Lib.hid (hbe.alloc (by have := hbe.size; omega) (.cells #[.string op', .int .i64 ya, .int .i64 yb, .int .i64 yv] 40))
              have hX2 := Lib.hid X2
              clear X2 Y2 hbe hX hne
              go_wp2
              go_roundw
              case rel => exact ⟨j + 1, by omega, by go_num, hB2.out, hX2.out⟩
              case measure => simp [intOf]; omega
            · obtain rfl : j = k := by omega
              have hfin := Lib.hid (hBL.out.trans (hbe.mono hBL.out.size))
              clear hbe hX
              go_wp2
              go_roundw
              case rel => exact ⟨j + 1, by omega, by go_num, hfin.out⟩
              case measure => simp [intOf]; omega
        · obtain rfl : k = S.length := by omega
          clear hBL hkt hk
          cases E
          · have hno := Lib.hid (fs_no hJ.out hE.out)
            have hq9 := pTree_any 0 wo.heap.size Ae ce xe wo (by omega) h_e.out (Nat.le_refl _)
            rw [hno.out] at hq9
            have H := Lib.hid hq9
            clear hq9
            go_wp2_with (fail)
            refine (H.out).mono ?_
            rintro e w61 ⟨rfl, hbe⟩
            replace h_e := Lib.hid (h_e.out.upE hbe)
            replace h_s := Lib.hid (h_s.out.upE hbe)
            replace h_t := Lib.hid (h_t.out.upE hbe)
            replace h_b := Lib.hid (h_b.out.upD hbe)
            replace hB := Lib.hid (hB.out.trans (hbe.mono hB.out.size))
            clear hbe H
            go_wp2
            go_ret
            exact ⟨rfl, hB.out⟩
          · obtain ⟨t1, t2, t3, t4, t5, t6⟩ := fs_tree hE.out
            rw [hTB9.out] at t4
            rw [hSS9.out] at t5
            replace t2 := Lib.hid t2
            replace t3 := Lib.hid t3
            replace t4 := Lib.hid t4
            replace t5 := Lib.hid t5
            replace t6 := Lib.hid t6
            rw [t1] at h_t hkT
            rw [t1]
            clear t1
            generalize expandL xe = X at *
            have hX24 := t6.out
            have hq9 := iShareExpr_k 0 wo.heap.size At ct X wo (by omega) h_t.out (Nat.le_refl _) hkT.out
            rw [t2.out] at hq9
            rw [t5.out] at hq9
            have H := Lib.hid hq9
            clear hq9
            go_wp2_with (fail)
            refine (H.out).mono ?_
            rintro e w61 ⟨Ad, cd, rfl, o9, hbe⟩
            replace h_e := Lib.hid (h_e.out.upE hbe)
            replace h_s := Lib.hid (h_s.out.upE hbe)
            replace h_t := Lib.hid (h_t.out.upE hbe)
            replace h_b := Lib.hid (h_b.out.upD hbe)
            replace hB := Lib.hid (hB.out.trans (hbe.mono hB.out.size))
            have h_d := Lib.hid ((OK.rsN o9).more (Nat.zero_le _) (Nat.le_refl _))
            clear hbe H
            clear o9
            have hq9 := pTree_any 0 w61.heap.size At ct X w61 (by omega) h_t.out (Nat.le_refl _)
            rw [t3.out] at hq9
            have H := Lib.hid hq9
            clear hq9
            go_wp2_with (fail)
            refine (H.out).mono ?_
            rintro e w62 ⟨rfl, hbe⟩
            replace h_e := Lib.hid (h_e.out.upE hbe)
            replace h_s := Lib.hid (h_s.out.upE hbe)
            replace h_t := Lib.hid (h_t.out.upE hbe)
            replace h_b := Lib.hid (h_b.out.upD hbe)
            replace h_d := Lib.hid (h_d.out.upE hbe)
            replace hB := Lib.hid (hB.out.trans (hbe.mono hB.out.size))
            clear hbe H
            have hq9 := pTable_any 0 w62.heap.size At ct X w62 (by omega) h_t.out (Nat.le_refl _)
            rw [t4.out] at hq9
            have H := Lib.hid hq9
            clear hq9
            go_wp2_with (fail)
            refine (H.out).mono ?_
            rintro e w63 ⟨Ac, cc, rfl, ob, hbe⟩
            replace h_e := Lib.hid (h_e.out.upE hbe)
            replace h_s := Lib.hid (h_s.out.upE hbe)
            replace h_t := Lib.hid (h_t.out.upE hbe)
            replace h_b := Lib.hid (h_b.out.upD hbe)
            replace h_d := Lib.hid (h_d.out.upE hbe)
            replace hB := Lib.hid (hB.out.trans (hbe.mono hB.out.size))
            have h_c := Lib.hid (IS.more (OW.rs ob) (Nat.zero_le _) (Nat.le_refl _))
            clear hbe H
            clear ob
            have H := Lib.hid (pSame_eq 0 w63.heap.size 0 w63.heap.size Ac Ab _ _ cc cb TB w63 rfl rfl htl.out h_c.out h_b.out)
            go_wp2_with (fail)
            refine (H.out).mono ?_
            rintro e w64 ⟨rfl, n, hn⟩
            have hbe := yes_below hn
            clear hn n
            replace h_e := Lib.hid (h_e.out.upE hbe)
            replace h_s := Lib.hid (h_s.out.upE hbe)
            replace h_t := Lib.hid (h_t.out.upE hbe)
            replace h_b := Lib.hid (h_b.out.upD hbe)
            replace h_d := Lib.hid (h_d.out.upE hbe)
            replace h_c := Lib.hid (h_c.out.upD hbe)
            replace hB := Lib.hid (hB.out.trans (hbe.mono hB.out.size))
            clear hbe H
            have H := Lib.hid (pSameExpr_eq 0 w64.heap.size 0 w64.heap.size Ad As _ _ cd cs (S) w64 rfl rfl (by omega) h_d.out h_s.out)
            go_wp2_with (fail)
            refine (H.out).mono ?_
            rintro e w65 ⟨rfl, n, hn⟩
            have hbe := yes_below hn
            clear hn n
            replace h_e := Lib.hid (h_e.out.upE hbe)
            replace h_s := Lib.hid (h_s.out.upE hbe)
            replace h_t := Lib.hid (h_t.out.upE hbe)
            replace h_b := Lib.hid (h_b.out.upD hbe)
            replace h_d := Lib.hid (h_d.out.upE hbe)
            replace h_c := Lib.hid (h_c.out.upD hbe)
            replace hB := Lib.hid (hB.out.trans (hbe.mono hB.out.size))
            clear hbe H
            go_wp2
            go_ret
            exact ⟨rfl, hB.out⟩
  · have h0b : 0 ≤ ((bs.length : Int) % 64) ∧ ((bs.length : Int) % 64) ≤ 63 := by omega
    have h1b : 0 ≤ ((bs'.length : Int) % 64) ∧ ((bs'.length : Int) % 64) ≤ 63 := by omega
    obtain ⟨v1, v2, v3, v4, v5, v6, v7⟩ := fs_sub hT.out h0b h1b
    replace v1 := Lib.hid v1
    replace v2 := Lib.hid v2
    replace v3 := Lib.hid v3
    replace v4 := Lib.hid v4
    replace v5 := Lib.hid v5
    obtain ⟨i, rfl⟩ := Int.eq_ofNat_of_zero_le v6
    have hil : i < xf.length := by omega
    clear h0b h1b v6
    have hL1 : bs.length ≤ 1048576 := by omega
    have hL2 : bs'.length ≤ 1048576 := by omega
    have hq9 := iValuesOf_k 0 w12.heap.size Af cf xf ((bs.length : Int) % 64) ((bs'.length : Int) % 64) w12 (by omega) h_f.out (Nat.le_refl _)
    rw [v1.out] at hq9
    rw [v2.out] at hq9
    have H := Lib.hid hq9
    clear hq9
    go_wp2_with (fail)
    refine (H.out).mono ?_
    rintro e w13 ⟨Av, cv, rfl, ov, hbe⟩
    replace h_e := Lib.hid (h_e.out.upE hbe)
    replace h_s := Lib.hid (h_s.out.upE hbe)
    replace h_t := Lib.hid (h_t.out.upE hbe)
    replace h_f := Lib.hid (h_f.out.upE hbe)
    replace h_p := Lib.hid (h_p.out.upE hbe)
    replace hB := Lib.hid (hB.out.trans (hbe.mono hB.out.size))
    have h_v := Lib.hid (IS.more (OW.rs ov) (Nat.zero_le _) (Nat.le_refl _))
    clear hbe H
    clear ov
    have hq9 := iEvalExpr_k 0 w13.heap.size Ap cp (subR xf (i : Int)) ((bs.length : Int) % 64) ((bs'.length : Int) % 64) w13 (hpl.out) h_p.out (Nat.le_refl _)
    rw [v4.out] at hq9
    rw [v5.out] at hq9
    have H := Lib.hid hq9
    clear hq9
    go_wp2_with (fail)
    refine (H.out).mono ?_
    rintro e w14 ⟨rfl, hbe⟩
    replace h_e := Lib.hid (h_e.out.upE hbe)
    replace h_s := Lib.hid (h_s.out.upE hbe)
    replace h_t := Lib.hid (h_t.out.upE hbe)
    replace h_f := Lib.hid (h_f.out.upE hbe)
    replace h_p := Lib.hid (h_p.out.upE hbe)
    replace h_v := Lib.hid (h_v.out.upD hbe)
    replace hB := Lib.hid (hB.out.trans (hbe.mono hB.out.size))
    clear hbe H
    rw [Int.toNat_natCast, v3.out]
    obtain ⟨vb, vo, rfl, ⟨_, hvb⟩, hvc⟩ := h_v.out (by have := v3.out; omega)
    have cv1 := hvc i (by have := v3.out; omega)
    have hgq : (vals xf ((bs.length : Int) % 64) ((bs'.length : Int) % 64))[i]'(by have := v3.out; omega) = (vals xf ((bs.length : Int) % 64) ((bs'.length : Int) % 64)).getD i 0 := by rw [List.getD_eq_getElem?_getD, List.getElem?_eq_getElem (by have := v3.out; omega)]; rfl
    rw [hgq] at cv1
    clear hvc hgq hvb
    generalize (vals xf ((bs.length : Int) % 64) ((bs'.length : Int) % 64)).getD i 0 = vi at *
    have hii : (i : Int) < (xf.length : Int) := by omega
    have hi0 : (0 : Int) ≤ (i : Int) := by omega
    clear h_v h_p h_f
    cases J
    · go_wp2
      go_ret
      exact ⟨rfl, hB.out⟩
    · obtain ⟨f1, f2, f3, f4, f5, f6, f7, f8⟩ := fs_share hJ.out
      replace f2 := Lib.hid f2
      replace f3 := Lib.hid f3
      replace f4 := Lib.hid f4
      replace f5 := Lib.hid f5
      replace f6 := Lib.hid f6
      replace f7 := Lib.hid f7
      replace f8 := Lib.hid f8
      rw [f1] at h_s
      rw [f1]
      rw [f1] at hks hsl
      clear f1
      generalize hSS : shareL xe = S at *
      have hSS9 := Lib.hid hSS
      clear hSS
      have hs24 : S.length ≤ 64 := by have := f7.out; omega
      have htl : Hid ((tab xe).length ≤ 1048576) := by unfold Hid tab; rw [tabTo_len]; omega
      generalize hTab : tab xe = TB at *
      have hTB9 := Lib.hid hTab
      clear hTab
      have hq9 := pTable_any 0 w14.heap.size Ae ce xe w14 (by omega) h_e.out (Nat.le_refl _)
      rw [f6.out] at hq9
      have H := Lib.hid hq9
      clear hq9
      go_wp2_with (fail)
      refine (H.out).mono ?_
      rintro e w15 ⟨Ab, cb, rfl, ob, hbe⟩
      replace h_e := Lib.hid (h_e.out.upE hbe)
      replace h_s := Lib.hid (h_s.out.upE hbe)
      replace h_t := Lib.hid (h_t.out.upE hbe)
      replace hB := Lib.hid (hB.out.trans (hbe.mono hB.out.size))
      have h_b := Lib.hid (IS.more (OW.rs ob) (Nat.zero_le _) (Nat.le_refl _))
      clear hbe H
      clear ob
      have hq9 := iShareExpr_k 0 w15.heap.size As cs S w15 (by omega) h_s.out (Nat.le_refl _) hks.out
      rw [f2.out] at hq9
      rw [f3.out] at hq9
      have H := Lib.hid hq9
      clear hq9
      go_wp2_with (fail)
      refine (H.out).mono ?_
      rintro e w16 ⟨Aa, ca, rfl, o9, hbe⟩
      replace h_e := Lib.hid (h_e.out.upE hbe)
      replace h_s := Lib.hid (h_s.out.upE hbe)
      replace h_t := Lib.hid (h_t.out.upE hbe)
      replace h_b := Lib.hid (h_b.out.upD hbe)
      replace hB := Lib.hid (hB.out.trans (hbe.mono hB.out.size))
      have h_a := Lib.hid ((OK.rsN o9).more (Nat.zero_le _) (Nat.le_refl _))
      clear hbe H
      clear o9
      have hq9 := iDepthOf_any 0 w16.heap.size Ae ce xe w16 (by omega) h_e.out.ns (Nat.le_refl _)
      rw [hJ.out] at hq9
      have H := Lib.hid hq9
      clear hq9
      go_wp2_with (fail)
      refine (H.out).mono ?_
      rintro e w17 ⟨rfl, hbe⟩
      replace h_e := Lib.hid (h_e.out.upE hbe)
      replace h_s := Lib.hid (h_s.out.upE hbe)
      replace h_t := Lib.hid (h_t.out.upE hbe)
      replace h_b := Lib.hid (h_b.out.upD hbe)
      replace h_a := Lib.hid (h_a.out.upE hbe)
      replace hB := Lib.hid (hB.out.trans (hbe.mono hB.out.size))
      clear hbe H
      have hq9 := iDepthOf_any 0 w17.heap.size As cs S w17 (by omega) h_s.out.ns (Nat.le_refl _)
      rw [f2.out] at hq9
      rw [f4.out] at hq9
      have H := Lib.hid hq9
      clear hq9
      go_wp2_with (fail)
      refine (H.out).mono ?_
      rintro e w18 ⟨rfl, hbe⟩
      replace h_e := Lib.hid (h_e.out.upE hbe)
      replace h_s := Lib.hid (h_s.out.upE hbe)
      replace h_t := Lib.hid (h_t.out.upE hbe)
      replace h_b := Lib.hid (h_b.out.upD hbe)
      replace h_a := Lib.hid (h_a.out.upE hbe)
      replace hB := Lib.hid (hB.out.trans (hbe.mono hB.out.size))
      clear hbe H
      have l1 : ¬ (xe.length : Int) < (S.length : Int) := by have := f7.out; omega
      have l2 : ¬ xe.length < S.length := by have := f7.out; omega
      have l3 : decide (xe.length < S.length) = false := decide_eq_false l2
      have H := Lib.hid (pSameExpr_eq 0 w18.heap.size 0 w18.heap.size Aa As _ _ ca cs (S) w18 rfl rfl (by omega) h_a.out h_s.out)
      go_wp2_with (fail)
      refine (H.out).mono ?_
      rintro e w19 ⟨rfl, n, hn⟩
      have hbe := yes_below hn
      clear hn n
      replace h_e := Lib.hid (h_e.out.upE hbe)
      replace h_s := Lib.hid (h_s.out.upE hbe)
      replace h_t := Lib.hid (h_t.out.upE hbe)
      replace h_b := Lib.hid (h_b.out.upD hbe)
      replace h_a := Lib.hid (h_a.out.upE hbe)
      replace hB := Lib.hid (hB.out.trans (hbe.mono hB.out.size))
      clear hbe H
      clear h_a
      have hq9 := pTable_any 0 w19.heap.size As cs S w19 (by omega) h_s.out (Nat.le_refl _)
      rw [f5.out] at hq9
      have H := Lib.hid hq9
      clear hq9
      go_wp2_with (fail)
      refine (H.out).mono ?_
      rintro e w20 ⟨Ac, cc, rfl, ob, hbe⟩
      replace h_e := Lib.hid (h_e.out.upE hbe)
      replace h_s := Lib.hid (h_s.out.upE hbe)
      replace h_t := Lib.hid (h_t.out.upE hbe)
      replace h_b := Lib.hid (h_b.out.upD hbe)
      replace hB := Lib.hid (hB.out.trans (hbe.mono hB.out.size))
      have h_c := Lib.hid (IS.more (OW.rs ob) (Nat.zero_le _) (Nat.le_refl _))
      clear hbe H
      clear ob
      have H := Lib.hid (pSame_eq 0 w20.heap.size 0 w20.heap.size Ac Ab _ _ cc cb TB w20 rfl rfl htl.out h_c.out h_b.out)
      go_wp2_with (fail)
      refine (H.out).mono ?_
      rintro e w21 ⟨rfl, n, hn⟩
      have hbe := yes_below hn
      clear hn n
      replace h_e := Lib.hid (h_e.out.upE hbe)
      replace h_s := Lib.hid (h_s.out.upE hbe)
      replace h_t := Lib.hid (h_t.out.upE hbe)
      replace h_b := Lib.hid (h_b.out.upD hbe)
      replace h_c := Lib.hid (h_c.out.upD hbe)
      replace hB := Lib.hid (hB.out.trans (hbe.mono hB.out.size))
      clear hbe H
      clear h_c
      have hgd := nd_guard
      go_wp2
      clear l1 l2 l3
      go_loopw [207] (fun i wr => ∃ k : Nat, k ≤ S.length ∧ i = .int .i64 k ∧ Below w21.heap.size w21 wr) (fun i _ => S.length - (intOf i).toNat)
      case atStart => exact ⟨0, Nat.zero_le _, rfl, Below.refl _ _⟩
      case round =>
        obtain ⟨k, hk, rfl, hbe⟩ := hrel
        generalize hQo : wr = wo at *
        clear hQo
        have hBL := Lib.hid hbe
        replace h_e := Lib.hid (h_e.out.upE hbe)
        replace h_s := Lib.hid (h_s.out.upE hbe)
        replace h_t := Lib.hid (h_t.out.upE hbe)
        replace h_b := Lib.hid (h_b.out.upD hbe)
        replace hB := Lib.hid (hB.out.trans (hbe.mono hB.out.size))
        clear hbe
        by_cases hkt : k < S.length
        · obtain ⟨sb, so, hAs, ⟨_, hsb⟩, hc⟩ := h_s.out.ns (by omega)
          obtain ⟨c1, c2, c3, c4⟩ := hc k hkt
          have hSn := Lib.hid f8.out
          subst hAs
          have hHC := Lib.hid hc
          clear hc
          have hki : (k : Int) < (S.length : Int) := by omega
          have hk0 : (0 : Int) ≤ (k : Int) := by omega
          have hkc : (k : Int) ≤ (cs : Int) := by have := hks.out; omega
          have hkc2 : k ≤ cs := by have := hks.out; omega
          have hSk := Lib.hid fun (j : Nat) (hj : j < k) => (show sameN S[k] (S[j]'(by omega)) = false by have h := hSn.out j k hj hkt; rw [getD_nd hkt, getD_nd (show j < S.length by omega)] at h; exact h)
          generalize hz : S[k] = z at *
          clear hz
          obtain ⟨op, za, zb, zv⟩ := z
          dsimp only at c1 c2 c3 c4
          have B1 := Lib.hid ((Below.refl wo.heap.size wo).alloc (Nat.le_refl _) (.cells #[.string op, .int .i64 za, .int .i64 zb, .int .i64 zv] 40))
          have X1 : Hid (XN (wo.alloc (.cells #[.string op, .int .i64 za, .int .i64 zb, .int .i64 zv] 40)) wo.heap.size ⟨op, za, zb, zv⟩) := xn_new wo ⟨op, za, zb, zv⟩
          go_wp2_with (fail)
          generalize wo.alloc (.cells #[.string op, .int .i64 za, .int .i64 zb, .int .i64 zv] 40) = W1 at *
          go_loopw [216] (fun i wr => ∃ j : Nat, j ≤ k ∧ i = .int .i64 j ∧ Below wo.heap.size wo wr ∧ XN wr wo.heap.size ⟨op, za, zb, zv⟩) (fun i _ => k - (intOf i).toNat)
          case atStart => exact ⟨0, Nat.zero_le _, rfl, B1.out, X1.out⟩
          case round =>
            obtain ⟨j, hj, rfl, hbe, hX⟩ := hrel
            by_cases hjk : j < k
            · obtain ⟨d1, d2, d3, d4⟩ := hHC.out j (by omega)
              replace d1 := (hbe.cell (p := ⟨sb, so + j * 4, none⟩) hsb).trans d1
              replace d2 := (hbe.cell (p := ⟨sb, so + j * 4 + 1, none⟩) hsb).trans d2
              replace d3 := (hbe.cell (p := ⟨sb, so + j * 4 + 2, none⟩) hsb).trans d3
              replace d4 := (hbe.cell (p := ⟨sb, so + j * 4 + 3, none⟩) hsb).trans d4
              have hne := hSk.out j hjk
              generalize hy9 : S[j]'(by omega) = y at *
              clear hy9
              obtain ⟨op', ya, yb, yv⟩ := y
              dsimp only at d1 d2 d3 d4
              have hEq : ∀ W : World, (Op.equalIn 10000 40 (.agg #[.string op, .int .i64 za, .int .i64 zb, .int .i64 zv]) (.agg #[.string op', .int .i64 ya, .int .i64 yb, .int .i64 yv])).run Try.prog W = .ok false W := fun W => (equalIn_nd op op' za zb zv ya yb yv W).trans (by rw [show sameN ⟨op, za, zb, zv⟩ ⟨op', ya, yb, yv⟩ = false from hne])
              have hji : (j : Int) < (k : Int) := by omega
              have hj0 : (0 : Int) ≤ (j : Int) := by omega
              have X2 := hX.next ((Below.refl wr.heap.size wr).alloc (Nat.le_refl _) (.cells #[.string op', .int .i64 ya, .int .i64 yb, .int .i64 yv] 40))
              have Y2 : XN (wr.alloc (.cells #[.string op', .int .i64 ya, .int .i64 yb, .int .i64 yv] 40)) wr.heap.size ⟨op', ya, yb, yv⟩ := xn_new wr ⟨op', ya, yb, yv⟩
              obtain ⟨x1, x2, x3, x4⟩ := X2.cells
              obtain ⟨y1, y2, y3, y4⟩ := Y2.cells
              simp only at x1 x2 x3 x4 y1 y2 y3 y4
              have hB2 := Lib.hid (hbe.alloc (by have := hbe.size; omega) (.cells #[.string op', .int .i64 ya, .int .i64 yb, .int .i64 yv] 40))
              have hX2 := Lib.hid X2
              clear X2 Y2 hbe hX hne
              go_wp2
              go_roundw
              case rel => exact ⟨j + 1, by omega, by go_num, hB2.out, hX2.out⟩
              case measure => simp [intOf]; omega
            · obtain rfl : j = k := by omega
              have hfin := Lib.hid (hBL.out.trans (hbe.mono hBL.out.size))
              clear hbe hX
              go_wp2
              go_roundw
              case rel => exact ⟨j + 1, by omega, by go_num, hfin.out⟩
              case measure => simp [intOf]; omega
        · obtain rfl : k = S.length := by omega
          clear hBL hkt hk
          cases E
          · have hno := Lib.hid (fs_no hJ.out hE.out)
            have hq9 := pTree_any 0 wo.heap.size Ae ce xe wo (by omega) h_e.out (Nat.le_refl _)
            rw [hno.out] at hq9
            have H := Lib.hid hq9
            clear hq9
            go_wp2_with (fail)
            refine (H.out).mono ?_
            rintro e w61 ⟨rfl, hbe⟩
            replace h_e := Lib.hid (h_e.out.upE hbe)
            replace h_s := Lib.hid (h_s.out.upE hbe)
            replace h_t := Lib.hid (h_t.out.upE hbe)
            replace h_b := Lib.hid (h_b.out.upD hbe)
            replace hB := Lib.hid (hB.out.trans (hbe.mono hB.out.size))
            clear hbe H
            go_wp2
            go_ret
            exact ⟨rfl, hB.out⟩
          · obtain ⟨t1, t2, t3, t4, t5, t6⟩ := fs_tree hE.out
            rw [hTB9.out] at t4
            rw [hSS9.out] at t5
            replace t2 := Lib.hid t2
            replace t3 := Lib.hid t3
            replace t4 := Lib.hid t4
            replace t5 := Lib.hid t5
            replace t6 := Lib.hid t6
            rw [t1] at h_t hkT
            rw [t1]
            clear t1
            generalize expandL xe = X at *
            have hX24 := t6.out
            have hq9 := iShareExpr_k 0 wo.heap.size At ct X wo (by omega) h_t.out (Nat.le_refl _) hkT.out
            rw [t2.out] at hq9
            rw [t5.out] at hq9
            have H := Lib.hid hq9
            clear hq9
            go_wp2_with (fail)
            refine (H.out).mono ?_
            rintro e w61 ⟨Ad, cd, rfl, o9, hbe⟩
            replace h_e := Lib.hid (h_e.out.upE hbe)
            replace h_s := Lib.hid (h_s.out.upE hbe)
            replace h_t := Lib.hid (h_t.out.upE hbe)
            replace h_b := Lib.hid (h_b.out.upD hbe)
            replace hB := Lib.hid (hB.out.trans (hbe.mono hB.out.size))
            have h_d := Lib.hid ((OK.rsN o9).more (Nat.zero_le _) (Nat.le_refl _))
            clear hbe H
            clear o9
            have hq9 := pTree_any 0 w61.heap.size At ct X w61 (by omega) h_t.out (Nat.le_refl _)
            rw [t3.out] at hq9
            have H := Lib.hid hq9
            clear hq9
            go_wp2_with (fail)
            refine (H.out).mono ?_
            rintro e w62 ⟨rfl, hbe⟩
            replace h_e := Lib.hid (h_e.out.upE hbe)
            replace h_s := Lib.hid (h_s.out.upE hbe)
            replace h_t := Lib.hid (h_t.out.upE hbe)
            replace h_b := Lib.hid (h_b.out.upD hbe)
            replace h_d := Lib.hid (h_d.out.upE hbe)
            replace hB := Lib.hid (hB.out.trans (hbe.mono hB.out.size))
            clear hbe H
            have hq9 := pTable_any 0 w62.heap.size At ct X w62 (by omega) h_t.out (Nat.le_refl _)
            rw [t4.out] at hq9
            have H := Lib.hid hq9
            clear hq9
            go_wp2_with (fail)
            refine (H.out).mono ?_
            rintro e w63 ⟨Ac, cc, rfl, ob, hbe⟩
            replace h_e := Lib.hid (h_e.out.upE hbe)
            replace h_s := Lib.hid (h_s.out.upE hbe)
            replace h_t := Lib.hid (h_t.out.upE hbe)
            replace h_b := Lib.hid (h_b.out.upD hbe)
            replace h_d := Lib.hid (h_d.out.upE hbe)
            replace hB := Lib.hid (hB.out.trans (hbe.mono hB.out.size))
            have h_c := Lib.hid (IS.more (OW.rs ob) (Nat.zero_le _) (Nat.le_refl _))
            clear hbe H
            clear ob
            have H := Lib.hid (pSame_eq 0 w63.heap.size 0 w63.heap.size Ac Ab _ _ cc cb TB w63 rfl rfl htl.out h_c.out h_b.out)
            go_wp2_with (fail)
            refine (H.out).mono ?_
            rintro e w64 ⟨rfl, n, hn⟩
            have hbe := yes_below hn
            clear hn n
            replace h_e := Lib.hid (h_e.out.upE hbe)
            replace h_s := Lib.hid (h_s.out.upE hbe)
            replace h_t := Lib.hid (h_t.out.upE hbe)
            replace h_b := Lib.hid (h_b.out.upD hbe)
            replace h_d := Lib.hid (h_d.out.upE hbe)
            replace h_c := Lib.hid (h_c.out.upD hbe)
            replace hB := Lib.hid (hB.out.trans (hbe.mono hB.out.size))
            clear hbe H
            have H := Lib.hid (pSameExpr_eq 0 w64.heap.size 0 w64.heap.size Ad As _ _ cd cs (S) w64 rfl rfl (by omega) h_d.out h_s.out)
            go_wp2_with (fail)
            refine (H.out).mono ?_
            rintro e w65 ⟨rfl, n, hn⟩
            have hbe := yes_below hn
            clear hn n
            replace h_e := Lib.hid (h_e.out.upE hbe)
            replace h_s := Lib.hid (h_s.out.upE hbe)
            replace h_t := Lib.hid (h_t.out.upE hbe)
            replace h_b := Lib.hid (h_b.out.upD hbe)
            replace h_d := Lib.hid (h_d.out.upE hbe)
            replace h_c := Lib.hid (h_c.out.upD hbe)
            replace hB := Lib.hid (hB.out.trans (hbe.mono hB.out.size))
            clear hbe H
            go_wp2
            go_ret
            exact ⟨rfl, hB.out⟩
end Go.Proofs.Ytmhdijklindipaa

/- Arguments of the types []laws.Instr, laws.Instr and []int opened. -/
namespace Go.Proofs.Ytmhdijklindipaa
open Go.ChangeShapes Go.WideShapes Go.ChangeAt Go.RowKit Go.Deep
open Go.ChangeMaps (open_string shut_string)
set_option linter.unusedVariables false

theorem cellsStr : Try.prog.cellsOf 9 = 1 := by kernel_rfl
theorem cellsInt : Try.prog.cellsOf 3 = 1 := by kernel_rfl

theorem cell_lt_heap {w : World} {a : Addr} {v : Value} (h : w.cell? a = some v) : a.block < w.heap.size := by
  rcases Nat.lt_or_ge a.block w.heap.size with hlt | hge
  · exact hlt
  · unfold World.cell? at h; rw [Array.getElem?_eq_none hge] at h; simp at h

set_option maxRecDepth 100000 in
theorem ints_of_trod {H : Type} {enc : TypeId × Value → H} {w : World} {spare : Nat → Bool} {held : Bool} {A : Option Addr} {len cap : Nat} {d : DataW H} {p : List MemPlace}
    (h : DataW.Trod enc Try.prog w 0 spare held 27 (.slice A len cap) d p) :
    ∃ xs : List Int, xs.length = len ∧ IS w 0 w.heap.size A xs ∧ len ≤ 9223372036854775807 := by
  obtain ⟨fuel, hf⟩ := h
  rcases open_slice Try.underlying27 hf with ⟨hcs, _⟩ | ⟨a, l, c, m, n, D, Pl, hcs, _, hl, hm, hmm, _, hi⟩
  · simp [Value.cells] at hcs
    obtain ⟨rfl, rfl, rfl⟩ := hcs
    exact ⟨[], rfl, fun h => absurd h (by simp), by omega⟩
  · simp [Value.cells] at hcs
    obtain ⟨rfl, rfl, rfl⟩ := hcs
    have hlm : len ≤ m := by rw [hmm]; split <;> omega
    have hex : ∀ i, i < len → ∃ x : Int, w.cell? (a.add i) = some (.int .i64 x) := by
      intro i hil
      obtain ⟨cs', hc, ht⟩ := hi i (by omega)
      rw [cellsInt, Nat.mul_one] at hc
      obtain ⟨x, hx, _, _⟩ := DataW.trod_int Try.underlying3 ht
      obtain ⟨_, _, hat⟩ := World.cells?_some hc
      have := hat 0 (by omega)
      rw [add_add, hx] at this
      exact ⟨x, by simpa using this⟩
    obtain ⟨f, hf2⟩ := Classical.axiomOfChoice (fun i : {i // i < len} => hex i.1 i.2)
    have hget : ∀ i (h : i < (List.ofFn fun i : Fin len => f ⟨i.1, i.2⟩).length), (List.ofFn fun i : Fin len => f ⟨i.1, i.2⟩)[i] = f ⟨i, by simpa using h⟩ := fun i h => by simp
    refine ⟨List.ofFn fun i : Fin len => f ⟨i.1, i.2⟩, by simp, ?_, by unfold maxLen at hm; omega⟩
    intro hpos
    have hpos' : 0 < len := by simpa using hpos
    have h0 := hf2 ⟨0, hpos'⟩
    obtain ⟨b, o, spot⟩ := a
    have hspot : spot = none := by have := World.cell?_spot h0; simpa [Addr.add] using this
    subst hspot
    have hadd : ∀ k, (⟨b, o, none⟩ : Addr).add k = ⟨b, o + k, none⟩ := fun k => by simp [Addr.add]
    refine ⟨b, o, rfl, ⟨Nat.zero_le _, ?_⟩, fun i hi => ?_⟩
    · rw [hadd] at h0
      exact cell_lt_heap h0
    · have hi' : i < len := by simpa using hi
      rw [hget i hi]
      have := hf2 ⟨i, hi'⟩
      simp only [hadd] at this
      exact this
end Go.Proofs.Ytmhdijklindipaa

/- A []byte argument opened. -/
namespace Go.Proofs.Ytmhdijklindipaa
open Go.ChangeShapes Go.WideShapes Go.ChangeAt Go.RowKit Go.Deep
set_option linter.unusedVariables false
theorem cellsByte : Try.prog.cellsOf 5 = 1 := by kernel_rfl
theorem bytes_of_trod {H : Type} {enc : TypeId × Value → H} {w : World} {spare : Nat → Bool} {held : Bool} {A : Option Addr} {len cap : Nat} {d : DataW H} {p : List MemPlace}
    (h : DataW.Trod enc Try.prog w 0 spare held 22 (.slice A len cap) d p) :
    ∃ xs : List Int, xs.length = len ∧ BY w w.heap.size A xs ∧ (∀ x ∈ xs, 0 ≤ x ∧ x ≤ 255) ∧ len ≤ 9223372036854775807 := by
  obtain ⟨fuel, hf⟩ := h
  rcases open_slice Try.underlying22 hf with ⟨hcs, _⟩ | ⟨a, l, c, m, n, D, Pl, hcs, _, hl, hm, hmm, _, hi⟩
  · simp [Value.cells] at hcs
    obtain ⟨rfl, rfl, rfl⟩ := hcs
    exact ⟨[], rfl, fun h => absurd h (by simp), fun x hx => by simp at hx, by omega⟩
  · simp [Value.cells] at hcs
    obtain ⟨rfl, rfl, rfl⟩ := hcs
    have hlm : len ≤ m := by rw [hmm]; split <;> omega
    have hex : ∀ i, i < len → ∃ x : Int, w.cell? (a.add i) = some (.int .u8 x) ∧ 0 ≤ x ∧ x ≤ 255 := by
      intro i hil
      obtain ⟨cs', hc, ht⟩ := hi i (by omega)
      rw [cellsByte, Nat.mul_one] at hc
      obtain ⟨x, hx, hb, hz⟩ := DataW.trod_int Try.underlying5 ht
      obtain ⟨_, _, hat⟩ := World.cells?_some hc
      have := hat 0 (by omega)
      rw [add_add, hx] at this
      refine ⟨x, by simpa using this, ?_⟩
      have hz2 : (decide (IntKind.u8.min ≤ x) && decide (x ≤ IntKind.u8.max)) = true := hz
      rw [show IntKind.u8.min = 0 from rfl, show IntKind.u8.max = 255 from rfl, Bool.and_eq_true, decide_eq_true_iff, decide_eq_true_iff] at hz2
      exact hz2
    obtain ⟨f, hf2⟩ := Classical.axiomOfChoice (fun i : {i // i < len} => hex i.1 i.2)
    have hget : ∀ i (h : i < (List.ofFn fun i : Fin len => f ⟨i.1, i.2⟩).length), (List.ofFn fun i : Fin len => f ⟨i.1, i.2⟩)[i] = f ⟨i, by simpa using h⟩ := fun i h => by simp
    refine ⟨List.ofFn fun i : Fin len => f ⟨i.1, i.2⟩, by simp, ?_, ?_, by unfold maxLen at hm; omega⟩
    · intro hpos
      have hpos' : 0 < len := by simpa using hpos
      have h0 := (hf2 ⟨0, hpos'⟩).1
      obtain ⟨b, o, spot⟩ := a
      have hspot : spot = none := by have := World.cell?_spot h0; simpa [Addr.add] using this
      subst hspot
      have hadd : ∀ k, (⟨b, o, none⟩ : Addr).add k = ⟨b, o + k, none⟩ := fun k => by simp [Addr.add]
      refine ⟨b, o, rfl, ?_, fun i hi => ?_⟩
      · rw [hadd] at h0
        exact cell_lt_heap h0
      · have hi' : i < len := by simpa using hi
        rw [hget i hi]
        have := (hf2 ⟨i, hi'⟩).1
        simp only [hadd] at this
        exact this
    · intro x hx
      rw [List.mem_ofFn] at hx
      obtain ⟨i, rfl⟩ := hx
      exact (hf2 ⟨i.1, i.2⟩).2
end Go.Proofs.Ytmhdijklindipaa
