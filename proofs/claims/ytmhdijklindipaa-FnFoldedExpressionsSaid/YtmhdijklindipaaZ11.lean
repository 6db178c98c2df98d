/- Texts of this proof, one behind the other: KNode, WD, WF, WG, WH, WI. -/
import Derived.Test.YtmhdijklindipaaRows
import Derived.Test.YtmhdijklindipaaV2
import Derived.Test.YtmhdijklindipaaZ12
import Derived.WalkKit
import Derived.WalkSpells
import Derived.WalkLawsBesides
import Derived.Laws.MakeOwn
import Derived.StillTailTactics
import Derived.Deep.QuietTactic
import Derived.BigQuiet
import Derived.Lib.Hide
import Derived.Test.YtmhdijklindipaaE
import Derived.Deep.RegionHeld3
import Derived.Deep.AppendLies
import Derived.Test.YtmhdijklindipaaD2
/- Slices of Node: what the laws do with them. -/
namespace Go.Proofs.Ytmhdijklindipaa
open Go.RowKit
set_option linter.unusedVariables false

theorem Nd.hk : ∀ x : Nd, (Nd.enc x).length = 4 := fun _ => rfl
theorem Nd.cellsR {w : World} {lo hi : Nat} {A : Option Addr} {es : List Nd} (h : RS Nd.enc 4 w lo hi A es) (hn : 0 < es.length) : ∃ b o, A = some ⟨b, o, none⟩ ∧ (lo ≤ b ∧ b < hi) ∧ ∀ i (h : i < es.length),
    w.cell? ⟨b, o + i * 4, none⟩ = some (.string es[i].op) ∧ w.cell? ⟨b, o + i * 4 + 1, none⟩ = some (.int .i64 es[i].a) ∧ w.cell? ⟨b, o + i * 4 + 2, none⟩ = some (.int .i64 es[i].b) ∧ w.cell? ⟨b, o + i * 4 + 3, none⟩ = some (.int .i64 es[i].v) := by
  obtain ⟨b, o, e, hb, hc⟩ := h hn
  exact ⟨b, o, e, hb, fun i hi => ⟨hc i hi 0 _ rfl, hc i hi 1 _ rfl, hc i hi 2 _ rfl, hc i hi 3 _ rfl⟩⟩
theorem Nd.cellsB {t : TypeId} {w : World} {g : Nat} {es : List Nd} {rest : List Value} (h : CB t w g (es.flatMap Nd.enc ++ rest)) (i : Nat) (hi : i < es.length) :
    ∃ z0 z1 z2 z3, w.cell? ⟨g, i * 4, none⟩ = some (.string z0) ∧ w.cell? ⟨g, i * 4 + 1, none⟩ = some (.int .i64 z1) ∧ w.cell? ⟨g, i * 4 + 2, none⟩ = some (.int .i64 z2) ∧ w.cell? ⟨g, i * 4 + 3, none⟩ = some (.int .i64 z3) :=
  ⟨_, _, _, _, h.at Nd.hk i hi 0 _ rfl, h.at Nd.hk i hi 1 _ rfl, h.at Nd.hk i hi 2 _ rfl, h.at Nd.hk i hi 3 _ rfl⟩


def SzNode (w : World) (left : Int) (n : Nat) (e : Ending) (w' : World) : Prop := ∃ r : Int, e = .returned (.int .i64 r) ∧ r ≤ left ∧ (0 ≤ r → (n : Int) ≤ left) ∧ -1 ≤ r ∧ Below w.heap.size w w'
theorem Try.infoNode : (Try.prog.info? 40).map (fun i => (i.zero, i.size, i.bytes)) = some (some (.agg #[.string ByteArray.empty, .int .i64 0, .int .i64 0, .int .i64 0]), 4, 40) := by kernel_rfl
theorem run_make_Node (n : Nat) (hn : n ≤ 1048576) (W : World) : (Instr.makeSlice 24 (.int .i64 (n : Int)) (.int .i64 (n : Int))).run Try.prog W = .ok (.slice (some ⟨W.heap.size, 0, none⟩) n n) (W.alloc (.cells ((List.replicate n zeroNd).flatMap Nd.enc).toArray 40)) := by
  obtain ⟨i0, hi, hz0, hz1, hz2⟩ := info_parts Try.infoNode
  have h := run_make (P := Try.prog) W 24 40 i0 _ Try.underlying24 hi hz0 .i64 .i64 n n (by omega) (by omega) (by rw [hz2]; omega) (by omega)
  rw [h]
  simp only [Int.toNat_natCast, hz1]
  refine congrArg (fun c => Result.ok (Value.slice (some ⟨W.heap.size, 0, none⟩) n n) (W.alloc (.cells c 40))) ?_
  apply Array.ext'
  exact made_flat Nd.hk zeroNd n

/-- A new slice that reads as es. -/
def FreshNode (w : World) (es : List Nd) (e : Ending) (w' : World) : Prop :=
  ∃ A c, e = .returned (.slice A es.length c) ∧ OK Nd.enc 4 40 w' w.heap.size w'.heap.size (.slice A es.length c) es ∧ Below w.heap.size w w'
theorem cb_nilNd {t : TypeId} {w : World} {g : Nat} {xs : List Nd} (h : CB t w g (xs.flatMap Nd.enc ++ [])) : KB Nd.enc t w g xs := by
  unfold CB at h; unfold KB; rw [List.append_nil] at h; exact h
end Go.Proofs.Ytmhdijklindipaa

/- The model's kept nodes. -/
namespace Go.Proofs.Ytmhdijklindipaa
open Go.RowKit
set_option linter.unusedVariables false
set_option maxRecDepth 100000

theorem parts_bd {n : Nd} {k : Nat} (h : isNode n k = true) : ∀ p ∈ parts n, 0 ≤ p ∧ p ≤ (k : Int) - 1 := by
  intro p hp
  rcases ar_cases_nd h with ⟨_, h2, h3, _⟩ | ⟨_, h2, h3, h4, h5, _⟩ | ⟨_, h2, h3, h4, h5, h6, h7⟩
  · simp [parts, h2, h3] at hp
  · simp [parts, h2] at hp; subst hp; omega
  · simp [parts, h2, h3] at hp
    rcases hp with hp | hp <;> subst hp <;> omega

theorem four_one (y : Nd) : ∀ u ∈ Nd.enc y, u.oneCell' = true := by intro u hu; simp [Nd.enc] at hu; rcases hu with rfl | rfl | rfl | rfl <;> rfl
theorem four_new {w : World} {g : Nat} (y : Nd) (hg : w.heap.size = g) {t : TypeId} : ∀ j u, (Nd.enc y)[j]? = some u → (w.alloc (.cells #[.string y.op, .int .i64 y.a, .int .i64 y.b, .int .i64 y.v] t)).cell? ((⟨g, 0, none⟩ : Addr).add j) = some u := by
  subst hg
  intro j u hu
  rw [addr_add]
  have : CB t (w.alloc (.cells #[.string y.op, .int .i64 y.a, .int .i64 y.b, .int .i64 y.v] t)) w.heap.size (Nd.enc y) := heap_alloc_new w _
  rw [this.cell]; exact hu
theorem nflat_snoc (l : List Nd) (y : Nd) : (l ++ [y]).flatMap Nd.enc = l.flatMap Nd.enc ++ Nd.enc y := by simp
theorem parts_le (n : Nd) : (parts n).length ≤ 2 := by
  unfold parts
  repeat' split
  all_goals simp only [List.length_cons, List.length_nil]
  all_goals decide
theorem boolCells_set (bs : List Bool) (i : Nat) (x : Bool) : (boolCells bs).setIfInBounds i (.bool x) = boolCells (bs.set i x) := by
  apply Array.ext'; simp [boolCells, List.map_set]

set_option maxHeartbeats 8000000 in
theorem exKeep_any (L B : Nat) (A : Option Addr) (c root : Nat) (es : List Nd) (w : World) (hl : es.length ≤ 24) (hr : root < es.length) (hes : NS w L B A es) (hB : B ≤ w.heap.size) (hok : okFrom es 0 = true) :
    Calls Try.prog 210 #[.slice A es.length c, .int .i64 root] w fun e w' => ∃ A' c', e = .returned (.slice A' (keepL es root).length c') ∧ OK Nd.enc 4 40 w' w.heap.size w'.heap.size (.slice A' (keepL es root).length c') (keepL es root) ∧ Below w.heap.size w w' := by
  obtain ⟨i0, hi0, hi1, hi2, hi3⟩ := info_parts Try.infoNode
  have hJ0 := Lib.hid hi0
  have hJ1 := Lib.hid hi1
  have hJ2 := Lib.hid hi2
  have hJ3 := Lib.hid hi3
  clear hi0 hi1 hi2 hi3
  have hmk := run_make_bools (root + 1) (by omega)
  have hmi := run_make_ints (root + 1) (by omega)
  have hcr : ((root + 1 : Nat) : Int) = (root : Int) + 1 := by omega
  rw [hcr] at hmk hmi
  have hE := Lib.hid fun (W : World) (hW : Below w.heap.size w W) => hes.below hW hB
  have hOk := Lib.hid hok
  have hm1 := boolCells_set (List.replicate (root + 1) false) root true
  have hB1 : Hid (BB (w.alloc (.cells (boolCells ((List.replicate (root + 1) false).set root true)) 4)) w.heap.size ((List.replicate (root + 1) false).set root true)) := by unfold Hid; exact heap_alloc_new w _
  rw [← hm1, ← needTo_start es root] at hB1
  have b1 := Lib.hid ((Below.refl w.heap.size w).alloc (Nat.le_refl _) (.cells ((boolCells (List.replicate (root + 1) false)).setIfInBounds root (.bool true)) 4))
  have hm2 : root < (boolCells (List.replicate (root + 1) false)).size := by simp [boolCells]
  have r0 : (0 : Int) ≤ (root : Int) := by omega
  have r1 : (root : Int) < (root : Int) + 1 := by omega
  have r2 : root < root + 1 := by omega
  have r3 : (root : Int) ≤ 23 := by omega
  clear hes hB hok hcr hm1
  go_enter Try.func210, Try.ntmps210
  go_wp2
  generalize w.alloc (.cells ((boolCells (List.replicate (root + 1) false)).setIfInBounds root (.bool true)) 4) = W1 at *
  clear hm2
  go_loopw [6] (fun i wr => ∃ q : Nat, q ≤ root + 1 ∧ i = .int .i64 ((q : Int) - 1) ∧ BB wr w.heap.size (needTo es root q) ∧ Below w.heap.size w wr) (fun i _ => (intOf i + 1).toNat)
  case atStart => exact ⟨root + 1, Nat.le_refl _, by go_num, hB1.out, b1.out⟩
  case round =>
    obtain ⟨q, hq, rfl, hbb, hbel⟩ := hrel
    have hBQ := Lib.hid hbb
    have hBL := Lib.hid hbel
    clear hbb hbel
    cases q with
    | succ p =>
      have hpe : p < es.length := by omega
      have hpi : ((p + 1 : Nat) : Int) - 1 = (p : Int) := by omega
      rw [hpi]
      have p0 : (0 : Int) ≤ (p : Int) := by omega
      have p1 : (p : Int) < (es.length : Int) := by omega
      obtain ⟨b, o, hA, ⟨_, hbB⟩, hc⟩ := (hE.out wr hBL.out) (by omega)
      obtain ⟨c1, c2, c3, c4⟩ := hc p hpe
      subst hA
      have hst := Lib.hid (needTo_step (es := es) (root := root) (m := p) (by omega) hr)
      have hnd := ok_get hOk.out hpe
      have hlen := needTo_len es root (p + 1)
      generalize hgn : needTo es root p = nb' at *
      have HN := Lib.hid hgn
      clear hgn hc
      generalize needTo es root (p + 1) = nb at *
      generalize es[p] = nd at *
      obtain ⟨s, a, bb, v⟩ := nd
      have hpb := parts_bd hnd
      have hss := Lib.hid fun j (hj : j < (parts ⟨s, a, bb, v⟩).length) => nstep_succ (b := nb) hj hpb
      have hself := Lib.hid fun j => nstep_self nb j hpb
      have hnl := Lib.hid fun j => nstep_len ⟨s, a, bb, v⟩ p nb j
      have hz := nstep_zero ⟨s, a, bb, v⟩ p nb
      have hpl : (parts ⟨s, a, bb, v⟩).length ≤ 2 := parts_le _
      have hnf : Hid (nb' = nstep ⟨s, a, bb, v⟩ p nb (parts ⟨s, a, bb, v⟩).length) := hst.out
      clear hnf
      go_wp2_with (fail)
      refine (exParts_any _ _ _ _ _).mono ?_
      rintro e w2 ⟨A2, cc, rfl, hIS, hb2⟩
      have hI2 := Lib.hid hIS
      have hbel2 := Lib.hid (hBL.out.trans (hb2.mono hBL.out.size))
      have hB2 := Lib.hid (hBQ.out.next hb2)
      have hglt := hBQ.out.lt
      clear hIS hb2 c1 c2 c3 c4 hnd
      have hnf : Hid (nb' = nstep ⟨s, a, bb, v⟩ p nb (parts ⟨s, a, bb, v⟩).length) := hst.out
      clear hst
      generalize parts ⟨s, a, bb, v⟩ = ps at *
      generalize nstep ⟨s, a, bb, v⟩ p nb = ns at *
      go_wp2_with (fail)
      go_loopw [29] (fun i wi => ∃ j : Nat, j ≤ ps.length ∧ i = .int .i64 j ∧ BB wi w.heap.size (ns j) ∧ Below w.heap.size w wi ∧ IS wi (w.heap.size + 1) wi.heap.size A2 ps) (fun i _ => ps.length - (intOf i).toNat)
      case atStart =>
        refine ⟨0, Nat.zero_le _, rfl, ?_, hbel2.out, hI2.out.more ?_ (Nat.le_refl _)⟩
        · rw [hz]; exact hB2.out
        · omega
      case round =>
        obtain ⟨j, hj, rfl, hib, hbel3, his⟩ := hrel
        have hIB3 := Lib.hid hib
        have hIS3 := Lib.hid his
        have hBL3 := Lib.hid hbel3
        clear hib his hbel3
        by_cases hjt : j < ps.length
        · obtain ⟨b2, o2, rfl, hbb, hc⟩ := hIS3.out (by omega)
          have hcj := hc j hjt
          obtain ⟨hq0, hq1⟩ := hpb _ (List.getElem_mem hjt)
          have hSj := Lib.hid (hss.out j hjt)
          obtain ⟨q, hq⟩ := Int.eq_ofNat_of_zero_le hq0
          have hql : q < root + 1 := by omega
          have hpl' : p < root + 1 := by omega
          rw [hq] at hcj
          have hSj' : Hid ((ns j).set q ((ns j).getD q false || nb.getD p false) = ns (j + 1)) := by
            have := hSj.out; rw [hq, Int.toNat_natCast] at this; exact this
          clear hc hq hq0 hq1 hSj
          have hcu := hIB3.out.cell q (by rw [hnl.out, hlen]; exact hql)
          have hcp := hIB3.out.cell p (by rw [hnl.out, hlen]; exact hpl')
          rw [hself.out j] at hcp
          have hfu := hIB3.out.frozen q
          clear hpb hss
          generalize ns j = us at *
          generalize us.getD q false = x at *
          generalize nb.getD p false = y at *
          have hK := Lib.hid fun (z : Bool) => hIS3.out.keep (w' := wr.setCell ⟨w.heap.size, q, none⟩ (.bool z)) fun p hp _ => World.cell?_setCell_other wr _ p _ (fun e => by subst e; have h9 : w.heap.size + 1 ≤ w.heap.size := hp; omega)
          cases x
          all_goals
            go_wp2
            go_roundw
          case rel =>
            refine ⟨j + 1, by omega, by go_num, ?_, hBL3.out.setCell (Nat.le_refl _) _, ?_⟩
            · have := hIB3.out.set q y; rw [← hSj'.out]; simpa using this
            · exact (hK.out y).more (Nat.le_refl _) (by simp [World.setCell])
          case measure => simp [intOf]; omega
          case rel =>
            refine ⟨j + 1, by omega, by go_num, ?_, hBL3.out.setCell (Nat.le_refl _) _, ?_⟩
            · have := hIB3.out.set q true; rw [← hSj'.out]; simpa using this
            · exact (hK.out true).more (Nat.le_refl _) (by simp [World.setCell])
          case measure => simp [intOf]; omega
        · obtain rfl : j = ps.length := by omega
          go_wp2
          go_roundw
          case rel =>
            refine ⟨p, by omega, rfl, ?_, hBL3.out⟩
            have := hIB3.out; rw [← hnf.out, ← HN.out] at this; exact this
          case measure => simp [intOf]
    | zero =>
      rw [show (((0 : Nat) : Int) - 1) = -1 from rfl]
      clear hmk hB1 b1
      have hsz := hBL.out.size
      have bP := Lib.hid (hBL.out.alloc hsz (.cells (intCells (zeros (root + 1))) 3))
      have nbP := Lib.hid (hBQ.out.next ((Below.refl wr.heap.size wr).alloc (Nat.le_refl _) (.cells (intCells (zeros (root + 1))) 3)))
      have iP : Hid (IB (wr.alloc (.cells (intCells (zeros (root + 1))) 3)) wr.heap.size 3 (zeros (root + 1))) := by unfold Hid; exact heap_alloc_new wr _
      have hnl := needTo_len es root 0
      have hKL : keepL es root = ke es (needTo es root 0) (root + 1) (root + 1) := rfl
      have hPl := Lib.hid (pl_len es (needTo es root 0) (root + 1))
      have hKe := Lib.hid (ke_len es (needTo es root 0) (root + 1))
      have hlt0 := hBQ.out.lt
      have hKy := Lib.hid fun k (hk : k < es.length) => kp_yes (m := root + 1) (nb := needTo es root 0) hk
      have hKn := Lib.hid fun k => kp_no (es := es) (m := root + 1) (nb := needTo es root 0) (k := k)
      have hp0 : pl es (needTo es root 0) (root + 1) 0 = zeros (root + 1) := rfl
      have hk0 : ke es (needTo es root 0) (root + 1) 0 = [] := rfl
      clear hBQ
      generalize needTo es root 0 = nb at *
      generalize pl es nb (root + 1) = P at *
      generalize ke es nb (root + 1) = KE at *
      go_wp2_with (fail)
      generalize wr.alloc (.cells (intCells (zeros (root + 1))) 3) = WP at *
      have hgW := iP.out.lt
      generalize wr.heap.size = g at *
      clear hmi
      go_loopw [10, 11] (fun v i wi => ∃ k : Nat, k ≤ root + 1 ∧ i = .int .i64 k ∧ IB wi g 3 (P k) ∧ BB wi w.heap.size nb ∧ OK Nd.enc 4 40 wi (g + 1) wi.heap.size v (KE k) ∧ Below w.heap.size w wi) (fun _ i _ => root + 1 - (intOf i).toNat)
      case atStart =>
        refine ⟨0, Nat.zero_le _, rfl, ?_, nbP.out, ?_, bP.out⟩
        · rw [hp0]; exact iP.out
        · rw [hk0]; exact OK.nil _ _ _ _
      case round =>
        obtain ⟨k, hk, rfl, hi, hb, ho, hbel⟩ := hrel
        obtain ⟨AV, cv, rfl, _⟩ := OK.form Nd.hk ho
        have hI := Lib.hid hi
        have hBn := Lib.hid hb
        have hO := Lib.hid ho
        have hBe := Lib.hid hbel
        clear hi hb ho hbel nbP iP bP
        by_cases hlt : k < root + 1
        · have hcell := hBn.out.cell k (by omega)
          cases hx : nb.getD k false
          · rw [hx] at hcell
            obtain ⟨e1, e2⟩ := hKn.out k hx
            have E1 := Lib.hid e1
            have E2 := Lib.hid e2
            clear e1 e2 hx
            have k0 : (k : Int) ≤ (root : Int) := by omega
            go_wp2
            go_roundw
            case rel =>
              refine ⟨k + 1, by omega, by go_num, ?_, hBn.out, ?_, hBe.out⟩
              · rw [E1.out]; exact hI.out
              · rw [E2.out]; exact hO.out
            case measure => simp [intOf]; omega
          · rw [hx] at hcell
            obtain ⟨e1, e2⟩ := hKy.out k (by omega) hx
            have hnd := ok_get hOk.out (show k < es.length by omega)
            have hkl := hKe.out k
            have E1 := Lib.hid e1
            have E2 := Lib.hid e2
            clear e1 e2 hx
            have k0 : (k : Int) ≤ (root : Int) := by omega
            have k1 : (0 : Int) ≤ (k : Int) := by omega
            have k2 : (k : Int) < (es.length : Int) := by omega
            have hgw := hI.out.lt
            have hic := hI.out.cell k (by rw [hPl.out]; exact hlt)
            have hif := hI.out.frozen k
            obtain ⟨W2, hW2⟩ : ∃ W2, W2 = wr.setCell ⟨g, k, none⟩ (.int .i64 ((KE k).length : Int)) := ⟨_, rfl⟩
            have iW : Hid (IB W2 g 3 (P (k + 1))) := by unfold Hid; rw [hW2, E1.out]; exact hI.out.set k _
            have bW : Hid (BB W2 w.heap.size nb) := by unfold Hid; rw [hW2]; exact hBn.out.other k _ (by omega)
            have cW : Hid (Chg g (g + 1) wr W2) := by unfold Hid; rw [hW2]; exact (Chg.refl _ _ _).setCell (by show g ≤ g ∧ g < g + 1; omega) _
            have zW : W2.heap.size = wr.heap.size := by rw [hW2]; simp [World.setCell]
            have oW : Hid (OK Nd.enc 4 40 W2 (g + 1) W2.heap.size (.slice AV (KE k).length cv) (KE k)) := by unfold Hid; rw [zW]; exact hO.out.chg cW.out (Or.inr (Nat.le_refl _))
            have eW : Hid (Below w.heap.size w W2) := below_chg hBe.out cW.out hBe.out.size (by omega)
            have nW := hE.out W2 eW.out
            obtain ⟨b, o, hA, ⟨_, hbB⟩, hc⟩ := nW (by omega)
            obtain ⟨c1, c2, c3, c4⟩ := hc k (by omega)
            subst hA
            have hmv := Lib.hid (moved_set hnd (P k) ((KE k).length : Int))
            rw [← E1.out] at hmv
            have hEx := Lib.hid (exMoved_any g (g + 1) (some ⟨g, 0, none⟩) (root + 1) (root + 1) k es[k] (P (k + 1)) W2 (hPl.out _) hnd hlt iW.out.toIS (by rw [zW]; omega))
            have hPk := hPl.out (k + 1)
            generalize hPK : P (k + 1) = Pk at *
            have HPK := Lib.hid hPK
            clear hPK
            rw [hmv.out] at hEx
            clear hc hmv nW
            generalize moved es[k] (P k) = mv at *
            generalize es[k] = nd at *
            rw [hW2] at c1 c2 c3 c4
            have HW2 := Lib.hid hW2
            clear hW2
            go_wp2_with (fail)
            rw [← HW2.out]
            refine hEx.out.mono ?_
            rintro e w3 ⟨rfl, hb3⟩
            have hz3 := hb3.size
            have b3 := Lib.hid (eW.out.trans (hb3.mono eW.out.size))
            have i3 := Lib.hid (iW.out.below hb3 iW.out.lt)
            have n3 := Lib.hid (bW.out.next hb3)
            have o3 := Lib.hid ((oW.out.below hb3 (Nat.le_refl _)).more hz3)
            clear hb3 c1 c2 c3 c4 hcell hic hif
            have hal := fun o => (Below.refl w3.heap.size w3).alloc (Nat.le_refl _) o
            have hO4 := fun o => Lib.hid (show (w3.alloc o).ownsRow (g + 1) 40 4 (.slice AV (KE k).length cv) (KE k).length ((KE k).flatMap Nd.enc) from (o3.out.below (hal o) (Nat.le_refl _)).1)
            have hz4 : g + 1 ≤ w3.heap.size := by omega
            go_wp2_with (at_builtin; refine wpList_append_own _ rfl _ _ 24 rfl (g + 1) 40 i0 _ 4 40 Try.underlying24 hJ0.out hJ1.out hJ2.out hJ3.out rfl (by decide) _ (KE k).length _ rfl (hO4 _).out ⟨w3.heap.size, 0, none⟩ 1 1 (Nd.enc mv) rfl rfl (four_new mv rfl) (four_one _) (by unfold maxLen; omega) (by omega) (by simp; omega) ?_; intro v' w1 hown1 hgr1 _)
            go_roundw
            case rel =>
              have hl0 := o3.out.lo
              have hc1 := Lib.hid ((hal (.cells #[.string mv.op, .int .i64 mv.a, .int .i64 mv.b, .int .i64 mv.v] 40)).mono (show g + 1 ≤ w3.heap.size from hz4))
              have hg1 : Below (g + 1) w3 w1 := hc1.out.grown hgr1 (by simp; omega) (fun j hj => (hl0 j hj).1)
              refine ⟨k + 1, by omega, by go_num, by rw [HPK.out]; exact (hg1.block g (by omega)).trans i3.out, (hg1.block _ (by omega)).trans n3.out, ?_, b3.out.trans (hg1.mono (by omega))⟩
              rw [E2.out]
              refine ⟨?_, fun j hj => (hown1.lt j hj).2⟩
              rw [nflat_snoc, List.length_append]; exact hown1
            case measure => simp [intOf]; omega
        · obtain rfl : k = root + 1 := by omega
          go_wp2
          go_ret
          rw [hKL]
          exact ⟨_, _, rfl, hO.out.lower (by omega), hBe.out⟩
end Go.Proofs.Ytmhdijklindipaa

/- The program's walk that moves nodes. -/
namespace Go.Proofs.Ytmhdijklindipaa
open Go.RowKit
set_option linter.unusedVariables false
set_option maxRecDepth 100000

theorem placeOf_any (q g m k cc : Nat) (ps : List Int) (w : World) (hm : ps.length = m) (hk : k < m) (hw : w.cell? ⟨q, 2, none⟩ = some (.slice (some ⟨g, 0, none⟩) m cc)) (hi : IB w g 3 ps) :
    Calls Try.prog 257 #[.pointer (some ⟨q, 0, none⟩), .int .i64 k] w fun e w' => e = .returned (.int .i64 (ps.getD k 0)) ∧ w' = w := by
  have hc : w.cell? ⟨g, k, none⟩ = some (.int .i64 (ps.getD k 0)) := by rw [hi.cell k (by omega), List.getD_eq_getElem?_getD, List.getElem?_eq_getElem (by omega)]; rfl
  generalize ps.getD k 0 = x at *
  have k1 : (0 : Int) ≤ (k : Int) := by omega
  have k2 : (k : Int) < (m : Int) := by omega
  clear hi hm
  go_enter Try.func257, Try.ntmps257
  go_wp2
  go_ret
  exact ⟨rfl, rfl⟩

set_option maxHeartbeats 4000000 in
theorem withOperands_any (q g m k cc : Nat) (n : Nd) (ps : List Int) (w : World) (hm : ps.length = m) (hn : isNode n k = true) (hk : k < m) (hq : q < w.heap.size) (hw : w.cell? ⟨q, 2, none⟩ = some (.slice (some ⟨g, 0, none⟩) m cc)) (hi : IB w g 3 ps) :
    Calls Try.prog 253 #[.agg #[.string n.op, .int .i64 n.a, .int .i64 n.b, .int .i64 n.v], .func (.func 257) #[.pointer (some ⟨q, 0, none⟩)] #[]] w fun e w' => e = .returned (.agg #[.string (moved n ps).op, .int .i64 (moved n ps).a, .int .i64 (moved n ps).b, .int .i64 (moved n ps).v]) ∧ Below w.heap.size w w' := by
  obtain ⟨op, a, b, v⟩ := n
  dsimp only
  have hPl := Lib.hid fun (j : Nat) (hj : j < m) (W : World) (hW : Below w.heap.size w W) => placeOf_any q g m j cc ps W hm hj ((hW.cell (p := ⟨q, 2, none⟩) hq).trans hw) (hi.below hW hi.lt)
  have hOc := Lib.hid fun W => operandCount_any op W
  obtain ⟨W1, hW1⟩ : ∃ W1, W1 = w.alloc (.cells #[.string op, .int .i64 a, .int .i64 b, .int .i64 v] 40) := ⟨_, rfl⟩
  have b1 : Below w.heap.size w W1 := by rw [hW1]; exact (Below.refl _ _).alloc (Nat.le_refl _) _
  have x1 : XN W1 w.heap.size ⟨op, a, b, v⟩ := by rw [hW1]; exact xn_new _ ⟨op, a, b, v⟩
  have z1 : W1.heap.size = w.heap.size + 1 := by rw [hW1]; simp
  obtain ⟨W2, hW2⟩ : ∃ W2, W2 = W1.alloc (.cells #[.string ⟨#[]⟩, .int .i64 0, .int .i64 0, .int .i64 0] 40) := ⟨_, rfl⟩
  have c2 : Below W1.heap.size W1 W2 := by rw [hW2]; exact (Below.refl _ _).alloc (Nat.le_refl _) _
  have x2 := Lib.hid (x1.next c2)
  have r2 : Hid (XN W2 (w.heap.size + 1) zeroNd) := by unfold Hid; rw [hW2, ← z1]; exact xn_new _ zeroNd
  have b2 := Lib.hid (b1.trans (c2.mono b1.size))
  have e2 : Hid (W2 = (w.alloc (.cells #[.string op, .int .i64 a, .int .i64 b, .int .i64 v] 40)).alloc (.cells #[.string ⟨#[]⟩, .int .i64 0, .int .i64 0, .int .i64 0] 40)) := by unfold Hid; rw [hW2, hW1]
  clear hW1 hW2 b1 x1 z1 c2 hw hi
  obtain ⟨d0, d1, d2, d3⟩ := x2.out.cells
  rcases ar_cases_nd hn with ⟨h1, h2, h3, h4, h5⟩ | ⟨h1, h2, h3, h4, h5, h6⟩ | ⟨h1, h2, h3, h4, h5, h6, h7⟩
  · dsimp only at h1 h2 h3 h4 h5
    have hmv := Lib.hid (show moved ⟨op, a, b, v⟩ ps = ⟨op, 0, 0, v⟩ by unfold moved; rw [h1]; rfl)
    rw [hmv.out]
    subst h4; subst h5
    rw [h1] at hOc
    clear h1 h2 h3 hmv hPl hn
    have f0 := r2.out.fz 0
    have f1 := r2.out.fz 1
    have f2 := r2.out.fz 2
    have f3 := r2.out.fz 3
    obtain ⟨g0, g1, g2, g3⟩ := r2.out.cells
    have R := Lib.hid (r2.out.put4 ⟨op, 0, 0, v⟩)
    have RB := Lib.hid (below_put4 b2.out (g := w.heap.size + 1) (by omega) ⟨op, 0, 0, v⟩)
    go_enter Try.func253, Try.ntmps253
    go_wp2_with (fail)
    rw [← e2.out]
    refine (hOc.out _).mono ?_
    rintro e w4 ⟨rfl, rfl⟩
    go_wp2
    exact node_ret rfl rfl R.out ⟨rfl, RB.out⟩
  · dsimp only at h1 h2 h3 h4 h5 h6
    have hmv := Lib.hid (show moved ⟨op, a, b, v⟩ ps = ⟨op, ps.getD a.toNat 0, 0, v⟩ by unfold moved; rw [h1]; rfl)
    rw [hmv.out]
    rw [h1] at hOc
    obtain ⟨pa, rfl⟩ := Int.eq_ofNat_of_zero_le h4
    subst h6
    have hpam : pa < m := by omega
    have HA := Lib.hid (hPl.out pa hpam W2 b2.out)
    rw [Int.toNat_natCast]
    clear h1 h2 h3 hmv hPl hn
    generalize ps.getD pa 0 = va at *
    have f1' := x2.out.fz 1
    have x3 := Lib.hid (x2.out.setA va)
    have r3 := Lib.hid (r2.out.other (q := w.heap.size) 1 (.int .i64 va) (by omega))
    have b3 := Lib.hid (b2.out.setCell (p := ⟨w.heap.size, 1, none⟩) (Nat.le_refl _) (.int .i64 va))
    obtain ⟨m0, m1, m2, m3⟩ := x3.out.cells
    have f0 := r3.out.fz 0
    have f1 := r3.out.fz 1
    have f2 := r3.out.fz 2
    have f3 := r3.out.fz 3
    obtain ⟨g0, g1, g2, g3⟩ := r3.out.cells
    have R := Lib.hid (r3.out.put4 ⟨op, va, 0, v⟩)
    have RB := Lib.hid (below_put4 b3.out (g := w.heap.size + 1) (by omega) ⟨op, va, 0, v⟩)
    go_enter Try.func253, Try.ntmps253
    go_wp2_with (fail)
    rw [← e2.out]
    refine (hOc.out _).mono ?_
    rintro e w4 ⟨rfl, rfl⟩
    go_wp2_with (fail)
    refine HA.out.mono ?_
    rintro e w5 ⟨rfl, rfl⟩
    go_wp2
    exact node_ret rfl rfl R.out ⟨rfl, RB.out⟩
  · dsimp only at h1 h2 h3 h4 h5 h6 h7
    have hmv := Lib.hid (show moved ⟨op, a, b, v⟩ ps = ⟨op, ps.getD a.toNat 0, ps.getD b.toNat 0, v⟩ by unfold moved; rw [h1]; rfl)
    rw [hmv.out]
    rw [h1] at hOc
    obtain ⟨pa, rfl⟩ := Int.eq_ofNat_of_zero_le h4
    obtain ⟨pb, rfl⟩ := Int.eq_ofNat_of_zero_le h6
    have hpam : pa < m := by omega
    have hpbm : pb < m := by omega
    have HA := Lib.hid (hPl.out pa hpam W2 b2.out)
    have HB := Lib.hid (hPl.out pb hpbm)
    rw [Int.toNat_natCast, Int.toNat_natCast]
    clear h1 h2 h3 hmv hPl hn
    generalize ps.getD pa 0 = va at *
    generalize ps.getD pb 0 = vb at *
    have f1' := x2.out.fz 1
    have x3 := Lib.hid (x2.out.setA va)
    have r3 := Lib.hid (r2.out.other (q := w.heap.size) 1 (.int .i64 va) (by omega))
    have b3 := Lib.hid (b2.out.setCell (p := ⟨w.heap.size, 1, none⟩) (Nat.le_refl _) (.int .i64 va))
    obtain ⟨m0, m1, m2, m3⟩ := x3.out.cells
    obtain ⟨W3, hW3⟩ : ∃ W3, W3 = W2.setCell ⟨w.heap.size, 1, none⟩ (.int .i64 va) := ⟨_, rfl⟩
    have x3' := x3.out
    have r3' := r3.out
    have b3' := b3.out
    rw [← hW3] at x3' r3' b3'
    have X := Lib.hid x3'
    have Rr := Lib.hid r3'
    have Bb := Lib.hid b3'
    have E3 := Lib.hid hW3
    clear x3' r3' b3' hW3
    have HB' := Lib.hid (HB.out W3 Bb.out)
    have f2' := X.out.fz 2
    have x4 := Lib.hid (X.out.setB vb)
    have r4 := Lib.hid (Rr.out.other (q := w.heap.size) 2 (.int .i64 vb) (by omega))
    have b4 := Lib.hid (Bb.out.setCell (p := ⟨w.heap.size, 2, none⟩) (Nat.le_refl _) (.int .i64 vb))
    obtain ⟨n0, n1, n2, n3⟩ := X.out.cells
    obtain ⟨l0, l1, l2, l3⟩ := x4.out.cells
    have f0 := r4.out.fz 0
    have f1 := r4.out.fz 1
    have f2 := r4.out.fz 2
    have f3 := r4.out.fz 3
    obtain ⟨g0, g1, g2, g3⟩ := r4.out.cells
    have R := Lib.hid (r4.out.put4 ⟨op, va, vb, v⟩)
    have RB := Lib.hid (below_put4 b4.out (g := w.heap.size + 1) (by omega) ⟨op, va, vb, v⟩)
    go_enter Try.func253, Try.ntmps253
    go_wp2_with (fail)
    rw [← e2.out]
    refine (hOc.out _).mono ?_
    rintro e w4 ⟨rfl, rfl⟩
    go_wp2_with (fail)
    refine HA.out.mono ?_
    rintro e w5 ⟨rfl, rfl⟩
    go_wp2_with (fail)
    rw [← E3.out]
    refine HB'.out.mono ?_
    rintro e w6 ⟨rfl, rfl⟩
    go_wp2
    exact node_ret rfl rfl R.out ⟨rfl, RB.out⟩
end Go.Proofs.Ytmhdijklindipaa

/- The program's builder: a node put behind the others. -/
namespace Go.Proofs.Ytmhdijklindipaa
open Go.RowKit
set_option linter.unusedVariables false
set_option maxRecDepth 100000

theorem put_facts {q L H : Nat} {w1 w2 : World} {o : Obj} {AV : Option Addr} {cv n : Nat} {row : Option Nat} (hq : q < L) (hL : L ≤ w1.heap.size) (k0 : w1.cell? ⟨q, 0, none⟩ = some (.slice AV n cv)) (hf : w1.frozen? ⟨q, 0, none⟩ = false) (hr : ∀ j, row = some j → L ≤ j ∧ j < H) (hg : ((w1.alloc o).drew).grownBy w2 row) :
    w2.cell? ⟨q, 0, none⟩ = some (.slice AV n cv) ∧ w2.frozen? ⟨q, 0, none⟩ = false ∧ (∀ x, (w2.setCell ⟨q, 0, none⟩ x).cell? ⟨q, 0, none⟩ = some x) ∧ Below L w1 w2 ∧ Chg L H w1 w2 := by
  have hb : Below L w1 w2 := (((Below.refl L w1).alloc hL o).drew).grown hg (by first | (simp; omega) | (have := ((Below.refl L w1).alloc hL o).drew.size; omega)) (fun j hj => (hr j hj).1)
  have hc := (hb.cell (p := ⟨q, 0, none⟩) hq).trans k0
  refine ⟨hc, ?_, ?_, hb, (((Chg.refl L H w1).alloc o).drew).trans (Chg.ofGrown hg hr)⟩
  · have := hb.block q hq
    unfold World.frozen? at hf ⊢
    simp only [this]; exact hf
  · intro x
    exact World.cell?_setCell_same' w2 _ x (by rw [hc]; rfl)

set_option maxHeartbeats 4000000 in
theorem put_any (q L H : Nat) (AV : Option Addr) (cv : Nat) (xs : List Nd) (y : Nd) (w : World) (hx : xs.length < 24) (hq : q < L) (hL : L ≤ w.heap.size) (h0 : w.cell? ⟨q, 0, none⟩ = some (.slice AV xs.length cv)) (h1 : w.cell? ⟨q, 1, none⟩ = some (.bool false)) (hf : w.frozen? ⟨q, 0, none⟩ = false) (hH : H ≤ w.heap.size) (ho' : OK Nd.enc 4 40 w L H (.slice AV xs.length cv) xs) :
    Calls Try.prog 252 #[.pointer (some ⟨q, 0, none⟩), .agg #[.string y.op, .int .i64 y.a, .int .i64 y.b, .int .i64 y.v]] w fun e w' => e = .returned (.int .i64 xs.length) ∧ ∃ v' w1, w' = w1.setCell ⟨q, 0, none⟩ v' ∧ Below L w w1 ∧ Chg L H w w1 ∧ OK Nd.enc 4 40 w1 L w1.heap.size v' (xs ++ [y]) := by
  have ho := ho'.more hH
  obtain ⟨i0, hi0, hi1, hi2, hi3⟩ := info_parts Try.infoNode
  have hJ0 := Lib.hid hi0
  have hJ1 := Lib.hid hi1
  have hJ2 := Lib.hid hi2
  have hJ3 := Lib.hid hi3
  clear hi0 hi1 hi2 hi3
  have hO := Lib.hid ho
  have hq0 : q < w.heap.size := by omega
  have hal := fun o => (Below.refl w.heap.size w).alloc (Nat.le_refl _) o
  have g0 := fun o => ((hal o).cell (p := ⟨q, 0, none⟩) hq0).trans h0
  have g1 := fun o => ((hal o).cell (p := ⟨q, 1, none⟩) hq0).trans h1
  have x24 : (xs.length : Int) < 24 := by omega
  clear ho h0 h1
  go_enter Try.func252, Try.ntmps252
  go_wp2_with (fail)
  obtain ⟨w1, hw1⟩ : ∃ w1, w1 = w.alloc (.cells #[.string y.op, .int .i64 y.a, .int .i64 y.b, .int .i64 y.v] 40) := ⟨_, rfl⟩
  have X1 : XN w1 w.heap.size y := by rw [hw1]; exact xn_new _ y
  have B1 : Hid (Below w.heap.size w w1) := by unfold Hid; rw [hw1]; exact hal _
  have k0 : w1.cell? ⟨q, 0, none⟩ = some (.slice AV xs.length cv) := by rw [hw1]; exact g0 _
  have O1 : Hid (w1.ownsRow L 40 4 (.slice AV xs.length cv) xs.length (xs.flatMap Nd.enc)) := (hO.out.below B1.out (Nat.le_refl _)).1
  have Z1 : w1.heap.size = w.heap.size + 1 := by rw [hw1]; simp
  obtain ⟨m0, m1, m2, m3⟩ := X1.cells
  have O2 := fun o => Lib.hid (show ((w1.alloc o).drew).ownsRow L 40 4 (.slice AV xs.length cv) xs.length (xs.flatMap Nd.enc) from ((OK.below (t := 40) (enc := Nd.enc) (k := 4) (w := w1) (L := L) (B := w1.heap.size) (xs := xs) (v := .slice AV xs.length cv) ⟨O1.out, fun j hj => by have := (hO.out.lo j hj); omega⟩ (((Below.refl w1.heap.size w1).alloc (Nat.le_refl _) o).drew) (Nat.le_refl _)).1))
  have HL1 : Hid (L ≤ w1.heap.size) := by unfold Hid; omega
  have HR1 := Lib.hid fun j hj => ho'.lo j hj
  clear ho'
  have HF1 : Hid (w1.frozen? ⟨q, 0, none⟩ = false) := by
    have := B1.out.block q hq0
    unfold Hid; unfold World.frozen? at hf ⊢; simp only [this]; exact hf
  rw [← hw1]
  have HW1 := Lib.hid hw1
  clear hw1 hal g0 g1 X1
  go_region_law (first | (refine step_append_lies _ rfl _ _ 24 rfl L 40 i0 _ 4 40 Try.underlying24 hJ0.out hJ1.out hJ2.out hJ3.out rfl (by decide) _ _ _ (by rfl) (O2 _).out ⟨w.heap.size + 1, 0, none⟩ 1 1 (Nd.enc y) (by rfl) rfl (four_new y Z1) (four_one _) (by omega) (by unfold maxLen; omega) (by omega) (by simp; omega) (w1.heap.size + 1) (by simp) ?_; intro gg cap w2 hown1 hgr1 _ _; obtain ⟨j0, j1, j2, j3, j4⟩ := put_facts hq HL1.out k0 HF1.out HR1.out hgr1))
  all_goals
    have h1' := Lib.hid hown1
    have J3 := Lib.hid j3
    have J4 := Lib.hid j4
    clear hown1 hgr1 j4
    go_wp2
    go_ret
    refine ⟨rfl, _, w2, rfl, ?_, (Chg.ofBelow B1.out).trans J4.out, ?_⟩
    · exact (B1.out.mono hL).trans J3.out
    · refine ⟨?_, fun j hj => (h1'.out.lt j hj).2⟩
      rw [nflat_snoc, List.length_append]; exact h1'.out
end Go.Proofs.Ytmhdijklindipaa

/- The program's walk that moves nodes: one move. -/
namespace Go.Proofs.Ytmhdijklindipaa
open Go.RowKit
set_option linter.unusedVariables false
set_option maxRecDepth 100000

theorem xn_chg {w w' : World} {L b q : Nat} {n : Nd} (h : XN w b n) (hc : Chg L b w w') (hq : q ≠ b) (v : Value) : XN (w'.setCell ⟨q, 0, none⟩ v) b n := by
  have h1 : XN w' b n := (hc.block b h.lt (by omega)).trans h
  exact h1.other 0 v hq

set_option maxHeartbeats 4000000 in
theorem move_any (q g L m k cc : Nat) (AV : Option Addr) (cv : Nat) (xs : List Nd) (ps : List Int) (n : Nd) (w : World) (hx : xs.length < 24) (hn : isNode n k = true) (hk : k < m) (hm : ps.length = m) (hqg : q ≠ g) (hqL : q < L) (hgL : g < L) (hL : L ≤ w.heap.size)
    (h0 : w.cell? ⟨q, 0, none⟩ = some (.slice AV xs.length cv)) (h1 : w.cell? ⟨q, 1, none⟩ = some (.bool false)) (h2 : w.cell? ⟨q, 2, none⟩ = some (.slice (some ⟨g, 0, none⟩) m cc)) (hf : w.frozen? ⟨q, 0, none⟩ = false) (hi : IB w g 3 ps) (ho : OK Nd.enc 4 40 w L w.heap.size (.slice AV xs.length cv) xs) :
    Calls Try.prog 221 #[.pointer (some ⟨q, 0, none⟩), .int .i64 k, .agg #[.string n.op, .int .i64 n.a, .int .i64 n.b, .int .i64 n.v]] w fun e w' => e = .returned (.tuple #[]) ∧ ∃ v' w1, w' = (w1.setCell ⟨q, 0, none⟩ v').setCell ⟨g, k, none⟩ (.int .i64 xs.length) ∧ Below L w w1 ∧ OK Nd.enc 4 40 w1 L w1.heap.size v' (xs ++ [moved n ps]) := by
  have hal := Lib.hid ((Below.refl w.heap.size w).alloc (Nat.le_refl _) (.cells #[.string n.op, .int .i64 n.a, .int .i64 n.b, .int .i64 n.v] 40))
  have k1 : (0 : Int) ≤ (k : Int) := by omega
  have k2 : (k : Int) < (m : Int) := by omega
  have hc2 := (hal.out.cell (p := ⟨q, 2, none⟩) (by show q < _; omega)).trans h2
  have X0 : Hid (XN (w.alloc (.cells #[.string n.op, .int .i64 n.a, .int .i64 n.b, .int .i64 n.v] 40)) w.heap.size n) := xn_new _ n
  have hWO := Lib.hid fun (W : World) (hW : Below w.heap.size w W) => withOperands_any q g m k cc n ps W hm hn hk (by have := hW.size; omega) ((hW.cell (p := ⟨q, 2, none⟩) (by show q < _; omega)).trans h2) (hi.below hW hi.lt)
  have hPut := Lib.hid fun (W : World) (hW : Below w.heap.size w W) => put_any q L w.heap.size AV cv xs (moved n ps) W hx (by omega) (Nat.le_trans hL hW.size) ((hW.cell (p := ⟨q, 0, none⟩) (by show q < _; omega)).trans h0) ((hW.cell (p := ⟨q, 1, none⟩) (by show q < _; omega)).trans h1) ((hW.frozen (p := ⟨q, 0, none⟩) (by show q < _; omega)).trans hf) hW.size (ho.below hW (Nat.le_refl _))
  have hK2 := Lib.hid fun (W : World) (hW : Below w.heap.size w W) => (hW.cell (p := ⟨q, 2, none⟩) (by show q < _; omega)).trans h2
  have hK5 := Lib.hid fun (W W5 : World) (v : Value) (hW : Below w.heap.size w W) (h5 : Below L W W5) => ((World.cell?_setCell_other W5 ⟨q, 0, none⟩ ⟨q, 2, none⟩ v (by simp)).trans ((h5.cell (p := ⟨q, 2, none⟩) (by show q < L; omega)).trans ((hW.cell (p := ⟨q, 2, none⟩) (by show q < _; omega)).trans h2)) : (W5.setCell ⟨q, 0, none⟩ v).cell? ⟨q, 2, none⟩ = some (.slice (some ⟨g, 0, none⟩) m cc))
  have hGk := Lib.hid fun (W W5 : World) (v : Value) (hW : Below w.heap.size w W) (h5 : Below L W W5) => ((Below.heap_setCell W5 ⟨q, 0, none⟩ v g (by simp; omega)).trans ((h5.block g hgL).trans (hi.below hW hi.lt)) : IB (W5.setCell ⟨q, 0, none⟩ v) g 3 ps)
  clear hi ho h0 h1 h2 hf
  go_enter Try.func221, Try.ntmps221
  go_wp2_with (fail)
  generalize w.alloc (.cells #[.string n.op, .int .i64 n.a, .int .i64 n.b, .int .i64 n.v] 40) = w0 at *
  obtain ⟨m0, m1, m2, m3⟩ := X0.out.cells
  go_region_held3 (fun w' => w'.cell? ⟨q, 2, none⟩ = some (.slice (some ⟨g, 0, none⟩) m cc) ∧ w'.cell? ⟨w.heap.size, 0, none⟩ = some (.string n.op) ∧ w'.cell? ⟨w.heap.size, 1, none⟩ = some (.int .i64 n.a) ∧ w'.cell? ⟨w.heap.size, 2, none⟩ = some (.int .i64 n.b) ∧ w'.cell? ⟨w.heap.size, 3, none⟩ = some (.int .i64 n.v))
    (first | exact ⟨(World.cell?_setCell_far _ ⟨g, k, none⟩ ⟨q, 2, none⟩ _ (by simp; omega)).trans (hK5.out _ _ _ hbw hb5), ((xn_chg hx3 hc5 (by omega) _).other k _ (by omega)).cells⟩ | exact ⟨hK5.out _ _ _ hbw hb5, (xn_chg hx3 hc5 (by omega) _).cells⟩ | exact ⟨hK2.out _ hbw, hx3.cells⟩ | assumption | go_keep)
    (first
      | (go_at_call 253; refine (hWO.out _ (by first | exact hal.out | exact hal.out.drew)).mono ?_; rintro e w3 ⟨rfl, hb3⟩; have hbw : Below w.heap.size w w3 := (by first | exact hal.out.trans (hb3.mono hal.out.size) | exact hal.out.drew.trans (hb3.mono hal.out.size)); have hx3 : XN w3 w.heap.size n := (by first | exact X0.out.next hb3 | exact XN.next (w := w0.drew) X0.out hb3))
      | (go_at_call 252; refine (hPut.out _ (by first | exact hbw | exact hbw.drew)).mono ?_; rintro e w4 ⟨rfl, v', w5, rfl, hb5, hc5, ho5⟩; have hib5 := hGk.out _ _ v' hbw hb5; have s1 := IB.cell hib5 k (by omega); have s2 := IB.frozen hib5 k))
  all_goals
    have H1 := Lib.hid (hbw.mono (show L ≤ w.heap.size from hL) |>.trans hb5)
    have H2 := Lib.hid ho5
    clear hbw hb5 hc5 ho5 hb3 hx3 hib5 s1 s2
    go_wp2
    first | (refine bodyPost_end (results_none rfl _ _ _) rfl ?_) | (refine bodyPost_ret (results_none rfl _ _ _) rfl ?_)
    exact ⟨rfl, v', w5, rfl, H1.out, H2.out⟩
end Go.Proofs.Ytmhdijklindipaa

/- The program's kept nodes. -/
namespace Go.Proofs.Ytmhdijklindipaa
open Go.RowKit
set_option linter.unusedVariables false
set_option maxRecDepth 100000

/-- The box of a walk that moves. -/
def MB (w : World) (q g m cc : Nat) (v : Value) (fl : Bool) : Prop := w.heap[q]? = some (.cells #[v, .bool fl, .slice (some ⟨g, 0, none⟩) m cc] 183 (0, 0))
theorem MB.lt {w : World} {q g m cc : Nat} {v : Value} {fl : Bool} (h : MB w q g m cc v fl) : q < w.heap.size := by
  rcases Nat.lt_or_ge q w.heap.size with hlt | hge
  · exact hlt
  · unfold MB at h; rw [Array.getElem?_eq_none hge] at h; cases h
theorem MB.cells {w : World} {q g m cc : Nat} {v : Value} {fl : Bool} (h : MB w q g m cc v fl) : w.cell? ⟨q, 0, none⟩ = some v ∧ w.cell? ⟨q, 1, none⟩ = some (.bool fl) ∧ w.cell? ⟨q, 2, none⟩ = some (.slice (some ⟨g, 0, none⟩) m cc) := by
  unfold MB at h; simp [World.cell?, h]
theorem MB.fz {w : World} {q g m cc : Nat} {v : Value} {fl : Bool} (h : MB w q g m cc v fl) (i : Nat) : w.frozen? ⟨q, i, none⟩ = false := by
  unfold MB at h; simp [World.frozen?, h]
theorem MB.block {w w' : World} {q g m cc : Nat} {v : Value} {fl : Bool} (h : MB w q g m cc v fl) (e : w'.heap[q]? = w.heap[q]?) : MB w' q g m cc v fl := e.trans h
theorem MB.next {w w' : World} {q g m cc : Nat} {v : Value} {fl : Bool} (h : MB w q g m cc v fl) (hb : Below w.heap.size w w') : MB w' q g m cc v fl := (hb.block q h.lt).trans h
theorem MB.set0 {w : World} {q g m cc : Nat} {v : Value} {fl : Bool} (h : MB w q g m cc v fl) (u : Value) : MB (w.setCell ⟨q, 0, none⟩ u) q g m cc u fl := by
  unfold MB at h ⊢; simp [World.setCell, Array.getElem?_modify, h]
theorem MB.set1 {w : World} {q g m cc : Nat} {v : Value} {fl : Bool} (h : MB w q g m cc v fl) (x : Bool) : MB (w.setCell ⟨q, 1, none⟩ (.bool x)) q g m cc v x := by
  unfold MB at h ⊢; simp [World.setCell, Array.getElem?_modify, h]
theorem MB.other {w : World} {q g m cc p : Nat} {v : Value} {fl : Bool} (h : MB w q g m cc v fl) (j : Nat) (x : Value) (hne : p ≠ q) : MB (w.setCell ⟨p, j, none⟩ x) q g m cc v fl :=
  (Below.heap_setCell w ⟨p, j, none⟩ x q (by simpa using Ne.symm hne)).trans h

/-- One move, told by the walk's box. -/
theorem move_box (q g L m k cc : Nat) (v : Value) (xs : List Nd) (ps : List Int) (n : Nd) (w : World) (hx : xs.length < 24) (hn : isNode n k = true) (hk : k < m) (hm : ps.length = m) (hqg : q ≠ g) (hqL : q < L) (hgL : g < L) (hL : L ≤ w.heap.size)
    (hq : MB w q g m cc v false) (hi : IB w g 3 ps) (ho : OK Nd.enc 4 40 w L w.heap.size v xs) :
    Calls Try.prog 221 #[.pointer (some ⟨q, 0, none⟩), .int .i64 k, .agg #[.string n.op, .int .i64 n.a, .int .i64 n.b, .int .i64 n.v]] w fun e w' => e = .returned (.tuple #[]) ∧ ∃ v', MB w' q g m cc v' false ∧ IB w' g 3 (ps.set k xs.length) ∧ OK Nd.enc 4 40 w' L w'.heap.size v' (xs ++ [moved n ps]) ∧ w.heap.size ≤ w'.heap.size ∧ (∀ C, C ≤ q → C ≤ g → Below C w w') ∧ ∀ j, j < L → j ≠ q → j ≠ g → w'.heap[j]? = w.heap[j]? := by
  obtain ⟨AV, cv, rfl, _⟩ := OK.form Nd.hk ho
  obtain ⟨h0, h1, h2⟩ := hq.cells
  refine (move_any q g L m k cc AV cv xs ps n w hx hn hk hm hqg hqL hgL hL h0 h1 h2 (hq.fz 0) hi ho).mono ?_
  rintro e w' ⟨rfl, v', w1, rfl, hb, ho'⟩
  refine ⟨rfl, v', ?_, ?_, ?_, ?_, ?_, ?_⟩
  · exact ((hq.block (hb.block q hqL)).set0 v').other k _ (Ne.symm hqg)
  · have : IB w1 g 3 ps := (hb.block g hgL).trans hi
    have h9 : IB (w1.setCell ⟨q, 0, none⟩ v') g 3 ps := (Below.heap_setCell w1 ⟨q, 0, none⟩ v' g (by simpa using Ne.symm hqg)).trans this
    exact h9.set k _
  · have c1 : Chg 0 L w1 ((w1.setCell ⟨q, 0, none⟩ v').setCell ⟨g, k, none⟩ (.int .i64 xs.length)) := ((Chg.refl 0 L w1).setCell (p := ⟨q, 0, none⟩) ⟨Nat.zero_le _, hqL⟩ v').setCell (p := ⟨g, k, none⟩) ⟨Nat.zero_le _, hgL⟩ _
    have := ho'.chg c1 (Or.inr (Nat.le_refl _))
    simpa [World.setCell] using this
  · have := hb.size; simpa [World.setCell] using this
  · intro C h1 h2
    exact ((hb.mono (by omega)).setCell (p := ⟨q, 0, none⟩) h1 _).setCell (p := ⟨g, k, none⟩) h2 _
  · intro j hj hjq hjg
    rw [Below.heap_setCell _ ⟨g, k, none⟩ _ j (by simpa using hjg), Below.heap_setCell _ ⟨q, 0, none⟩ _ j (by simpa using hjq)]
    exact hb.block j hj

set_option maxHeartbeats 8000000 in
theorem subExpr_any (L B : Nat) (A : Option Addr) (c root : Nat) (es : List Nd) (w : World) (hl : es.length ≤ 24) (hc : es.length ≤ c) (hr : root < es.length) (hes : NS w L B A es) (hB : B ≤ w.heap.size) (hok : okFrom es 0 = true) :
    Calls Try.prog 209 #[.slice A es.length c, .int .i64 root] w fun e w' => ∃ A' c', e = .returned (.slice A' (keepL es root).length c') ∧ OK Nd.enc 4 40 w' w.heap.size w'.heap.size (.slice A' (keepL es root).length c') (keepL es root) ∧ Below w.heap.size w w' := by
  obtain ⟨i0, hi0, hi1, hi2, hi3⟩ := info_parts Try.infoNode
  have hJ0 := Lib.hid hi0
  have hJ1 := Lib.hid hi1
  have hJ2 := Lib.hid hi2
  have hJ3 := Lib.hid hi3
  clear hi0 hi1 hi2 hi3
  have hmk := run_make_bools (root + 1) (by omega)
  have hmi := run_make_ints (root + 1) (by omega)
  have hcr : ((root + 1 : Nat) : Int) = (root : Int) + 1 := by omega
  rw [hcr] at hmk hmi
  have hE := Lib.hid fun (W : World) (hW : Below w.heap.size w W) => hes.below hW hB
  have hOk := Lib.hid hok
  have hm1 := boolCells_set (List.replicate (root + 1) false) root true
  have hB1 : Hid (BB (w.alloc (.cells (boolCells ((List.replicate (root + 1) false).set root true)) 4)) w.heap.size ((List.replicate (root + 1) false).set root true)) := by unfold Hid; exact heap_alloc_new w _
  rw [← hm1, ← needTo_start es root] at hB1
  have b1 := Lib.hid ((Below.refl w.heap.size w).alloc (Nat.le_refl _) (.cells ((boolCells (List.replicate (root + 1) false)).setIfInBounds root (.bool true)) 4))
  have hm2 : root < (boolCells (List.replicate (root + 1) false)).size := by simp [boolCells]
  have r0 : (0 : Int) ≤ (root : Int) := by omega
  have r1 : (root : Int) < (root : Int) + 1 := by omega
  have r2 : root < root + 1 := by omega
  have r3 : (root : Int) ≤ 23 := by omega
  clear hes hB hok hcr hm1
  go_enter Try.func209, Try.ntmps209
  go_wp2
  generalize w.alloc (.cells ((boolCells (List.replicate (root + 1) false)).setIfInBounds root (.bool true)) 4) = W1 at *
  clear hm2
  go_loopw [6] (fun i wr => ∃ q : Nat, q ≤ root + 1 ∧ i = .int .i64 ((q : Int) - 1) ∧ BB wr w.heap.size (needTo es root q) ∧ Below w.heap.size w wr) (fun i _ => (intOf i + 1).toNat)
  case atStart => exact ⟨root + 1, Nat.le_refl _, by go_num, hB1.out, b1.out⟩
  case round =>
    obtain ⟨q, hq, rfl, hbb, hbel⟩ := hrel
    have hBQ := Lib.hid hbb
    have hBL := Lib.hid hbel
    clear hbb hbel
    cases q with
    | succ p =>
      have hpe : p < es.length := by omega
      have hpi : ((p + 1 : Nat) : Int) - 1 = (p : Int) := by omega
      rw [hpi]
      have p0 : (0 : Int) ≤ (p : Int) := by omega
      have p1 : (p : Int) < (es.length : Int) := by omega
      obtain ⟨b, o, hA, ⟨_, hbB⟩, hcc⟩ := (hE.out wr hBL.out) (by omega)
      obtain ⟨c1, c2, c3, c4⟩ := hcc p hpe
      subst hA
      have hst := Lib.hid (needTo_step (es := es) (root := root) (m := p) (by omega) hr)
      have hnd := ok_get hOk.out hpe
      have hlen := needTo_len es root (p + 1)
      generalize hgn : needTo es root p = nb' at *
      have HN := Lib.hid hgn
      clear hgn hcc
      generalize needTo es root (p + 1) = nb at *
      generalize es[p] = nd at *
      obtain ⟨s, a, bb, v⟩ := nd
      have hpb := parts_bd hnd
      have hcp := hBQ.out.cell p (by rw [hlen]; omega)
      cases hy : nb.getD p false
      · have hnf : Hid (nb' = nb) := by
          unfold Hid; rw [hst.out]; unfold nfull nstep; rw [if_neg (by rw [hy]; decide)]
        rw [hy] at hcp
        clear hst hy hlen hpb hnd
        go_wp2
        go_roundw
        case rel =>
          refine ⟨p, by omega, rfl, ?_, hBL.out⟩
          have := hBQ.out; rw [← hnf.out, ← HN.out] at this; exact this
        case measure => simp [intOf]
      · rw [hy] at hcp
        have hss := Lib.hid fun j (hj : j < (parts ⟨s, a, bb, v⟩).length) => nstep_succ (b := nb) hj hpb
        have hnl := Lib.hid fun j => nstep_len ⟨s, a, bb, v⟩ p nb j
        have hz := nstep_zero ⟨s, a, bb, v⟩ p nb
        have hpl : (parts ⟨s, a, bb, v⟩).length ≤ 2 := parts_le _
        have hnf : Hid (nb' = nstep ⟨s, a, bb, v⟩ p nb (parts ⟨s, a, bb, v⟩).length) := hst.out
        have hyo : ∀ j (hj : j < (parts ⟨s, a, bb, v⟩).length), (nstep ⟨s, a, bb, v⟩ p nb j).set ((parts ⟨s, a, bb, v⟩)[j]).toNat true = nstep ⟨s, a, bb, v⟩ p nb (j + 1) := by
          intro j hj; have := hss.out j hj; rw [hy, Bool.or_true] at this; exact this
        have hYO := Lib.hid hyo
        clear hst hy hss hyo hnd
        go_wp2_with (fail)
        refine (operandsOf_any _ _ _ _ _).mono ?_
        rintro e w2 ⟨A2, cc, rfl, hIS, hb2⟩
        have hI2 := Lib.hid hIS
        have hbel2 := Lib.hid (hBL.out.trans (hb2.mono hBL.out.size))
        have hB2 := Lib.hid (hBQ.out.next hb2)
        have hglt := hBQ.out.lt
        clear hIS hb2 c1 c2 c3 c4 hcp
        generalize parts ⟨s, a, bb, v⟩ = ps at *
        generalize nstep ⟨s, a, bb, v⟩ p nb = ns at *
        go_wp2_with (fail)
        go_loopw [33] (fun i wi => ∃ j : Nat, j ≤ ps.length ∧ i = .int .i64 j ∧ BB wi w.heap.size (ns j) ∧ Below w.heap.size w wi ∧ IS wi (w.heap.size + 1) wi.heap.size A2 ps) (fun i _ => ps.length - (intOf i).toNat)
        case atStart =>
          refine ⟨0, Nat.zero_le _, rfl, ?_, hbel2.out, hI2.out.more ?_ (Nat.le_refl _)⟩
          · rw [hz]; exact hB2.out
          · omega
        case round =>
          obtain ⟨j, hj, rfl, hib, hbel3, his⟩ := hrel
          have hIB3 := Lib.hid hib
          have hIS3 := Lib.hid his
          have hBL3 := Lib.hid hbel3
          clear hib his hbel3
          by_cases hjt : j < ps.length
          · obtain ⟨b2, o2, rfl, hbb, hc⟩ := hIS3.out (by omega)
            have hcj := hc j hjt
            obtain ⟨hq0, hq1⟩ := hpb _ (List.getElem_mem hjt)
            have hSj := Lib.hid (hYO.out j hjt)
            obtain ⟨q, hq⟩ := Int.eq_ofNat_of_zero_le hq0
            have hql : q < root + 1 := by omega
            rw [hq] at hcj
            have hSj' : Hid ((ns j).set q true = ns (j + 1)) := by
              have := hSj.out; rw [hq, Int.toNat_natCast] at this; exact this
            clear hc hq hq0 hq1 hSj
            have hcu := hIB3.out.cell q (by rw [hnl.out, hlen]; exact hql)
            have hfu := hIB3.out.frozen q
            clear hpb
            generalize ns j = us at *
            generalize us.getD q false = x at *
            have hK := Lib.hid fun (z : Bool) => hIS3.out.keep (w' := wr.setCell ⟨w.heap.size, q, none⟩ (.bool z)) fun p hp _ => World.cell?_setCell_other wr _ p _ (fun e => by subst e; have h9 : w.heap.size + 1 ≤ w.heap.size := hp; omega)
            go_wp2
            go_roundw
            case rel =>
              refine ⟨j + 1, by omega, by go_num, ?_, hBL3.out.setCell (Nat.le_refl _) _, ?_⟩
              · have := hIB3.out.set q true; rw [← hSj'.out]; simpa using this
              · exact (hK.out true).more (Nat.le_refl _) (by simp [World.setCell])
            case measure => simp [intOf]; omega
          · obtain rfl : j = ps.length := by omega
            go_wp2
            go_roundw
            case rel =>
              refine ⟨p, by omega, rfl, ?_, hBL3.out⟩
              have := hIB3.out; rw [← hnf.out, ← HN.out] at this; exact this
            case measure => simp [intOf]
    | zero =>
      rw [show (((0 : Nat) : Int) - 1) = -1 from rfl]
      clear hmk hB1 b1
      have hsz := hBL.out.size
      have bP := Lib.hid (hBL.out.alloc hsz (.cells (intCells (zeros (root + 1))) 3))
      have nbP := Lib.hid (hBQ.out.next ((Below.refl wr.heap.size wr).alloc (Nat.le_refl _) (.cells (intCells (zeros (root + 1))) 3)))
      have iP : Hid (IB (wr.alloc (.cells (intCells (zeros (root + 1))) 3)) wr.heap.size 3 (zeros (root + 1))) := by unfold Hid; exact heap_alloc_new wr _
      have hnl := needTo_len es root 0
      have hKL : keepL es root = ke es (needTo es root 0) (root + 1) (root + 1) := rfl
      have hPl := Lib.hid (pl_len es (needTo es root 0) (root + 1))
      have hKe := Lib.hid (ke_len es (needTo es root 0) (root + 1))
      have hlt0 := hBQ.out.lt
      have hKy := Lib.hid fun k (hk : k < es.length) => kp_yes (m := root + 1) (nb := needTo es root 0) hk
      have hKn := Lib.hid fun k => kp_no (es := es) (m := root + 1) (nb := needTo es root 0) (k := k)
      have hp0 : pl es (needTo es root 0) (root + 1) 0 = zeros (root + 1) := rfl
      have hk0 : ke es (needTo es root 0) (root + 1) 0 = [] := rfl
      have hzP : (wr.alloc (.cells (intCells (zeros (root + 1))) 3)).heap.size = wr.heap.size + 1 := by simp
      clear hBQ
      generalize needTo es root 0 = nb at *
      generalize pl es nb (root + 1) = P at *
      generalize ke es nb (root + 1) = KE at *
      obtain ⟨WQ, hWQ⟩ : ∃ WQ, WQ = (wr.alloc (.cells (intCells (zeros (root + 1))) 3)).alloc (.cells #[.slice none 0 0, .bool false, .slice (some ⟨wr.heap.size, 0, none⟩) (root + 1) (root + 1)] 183) := ⟨_, rfl⟩
      have aQ := (Below.refl (wr.alloc (.cells (intCells (zeros (root + 1))) 3)).heap.size (wr.alloc (.cells (intCells (zeros (root + 1))) 3))).alloc (Nat.le_refl _) (.cells #[.slice none 0 0, .bool false, .slice (some ⟨wr.heap.size, 0, none⟩) (root + 1) (root + 1)] 183)
      rw [← hWQ] at aQ
      have bQ := Lib.hid (bP.out.trans (aQ.mono bP.out.size))
      have nbQ := Lib.hid (nbP.out.next aQ)
      have iQ := Lib.hid (iP.out.below aQ iP.out.lt)
      have mQ : Hid (MB WQ (wr.heap.size + 1) wr.heap.size (root + 1) (root + 1) (.slice none 0 0) false) := by
        unfold Hid; rw [← hzP, hWQ]; exact heap_alloc_new _ _
      have zQ : WQ.heap.size = wr.heap.size + 2 := by rw [hWQ]; simp
      have hWQ' := Lib.hid hWQ
      clear hWQ aQ bP nbP iP hzP
      obtain ⟨b, o, hA, ⟨_, hbB⟩, hcc⟩ := (hE.out wr hBL.out) (by omega)
      subst hA
      clear hcc hbB
      go_wp2_with (fail)
      rw [← hWQ'.out]
      clear hWQ' hmi
      generalize wr.heap.size = g at *
      go_loopw [50] (fun i wi => ∃ (k : Nat) (v : Value), k ≤ root + 1 ∧ i = .int .i64 k ∧ IB wi g 3 (P k) ∧ BB wi w.heap.size nb ∧ MB wi (g + 1) g (root + 1) (root + 1) v false ∧ OK Nd.enc 4 40 wi (g + 2) wi.heap.size v (KE k) ∧ Below w.heap.size w wi) (fun i _ => root + 1 - (intOf i).toNat)
      case atStart =>
        refine ⟨0, .slice none 0 0, Nat.zero_le _, rfl, ?_, nbQ.out, mQ.out, ?_, bQ.out⟩
        · rw [hp0]; exact iQ.out
        · rw [hk0]; exact OK.nil _ _ _ _
      case round =>
        obtain ⟨k, v, hk, rfl, hi, hb, hm, ho, hbel⟩ := hrel
        have hI := Lib.hid hi
        have hBn := Lib.hid hb
        have hM := Lib.hid hm
        have hO := Lib.hid ho
        have hBe := Lib.hid hbel
        clear hi hb hm ho hbel nbQ mQ iQ bQ
        by_cases hlt : k < root + 1
        · obtain ⟨b', o', hA, ⟨_, hbB⟩, hcc⟩ := (hE.out wr hBe.out) (by omega)
          obtain ⟨c1, c2, c3, c4⟩ := hcc k (by omega)
          injection hA with hA
          injection hA with hA1 hA2
          subst hA1; subst hA2
          have hcell := hBn.out.cell k (by omega)
          have k0 : (0 : Int) ≤ (k : Int) := by omega
          have k1 : (k : Int) < (root : Int) + 1 := by omega
          have hnd := ok_get hOk.out (show k < es.length by omega)
          have hX := xn_new wr es[k]
          have hXb := (Below.refl wr.heap.size wr).alloc (Nat.le_refl _) (.cells #[.string es[k].op, .int .i64 es[k].a, .int .i64 es[k].b, .int .i64 es[k].v] 40)
          have hXz : (wr.alloc (.cells #[.string es[k].op, .int .i64 es[k].a, .int .i64 es[k].b, .int .i64 es[k].v] 40)).heap.size = wr.heap.size + 1 := by simp
          have hcell2 := (hXb.cell (p := ⟨w.heap.size, k, none⟩) hBn.out.lt).trans hcell
          obtain ⟨X, hXe⟩ : ∃ X, X = wr.alloc (.cells #[.string es[k].op, .int .i64 es[k].a, .int .i64 es[k].b, .int .i64 es[k].v] 40) := ⟨_, rfl⟩
          rw [← hXe] at hX hXb hXz hcell2
          have xI := Lib.hid (hI.out.below hXb hI.out.lt)
          have xB := Lib.hid (hBn.out.next hXb)
          have xM := Lib.hid (hM.out.next hXb)
          have xO := Lib.hid ((hO.out.below hXb (Nat.le_refl _)).more hXb.size)
          have xE := Lib.hid (hBe.out.trans (hXb.mono hBe.out.size))
          have hgL : g + 2 ≤ wr.heap.size := by have := hM.out.lt; omega
          have HX := Lib.hid hXe
          have hkl := hKe.out k
          have hPk := hPl.out k
          cases hx : nb.getD k false
          · rw [hx] at hcell hcell2
            obtain ⟨e1, e2⟩ := hKn.out k hx
            have E1 := Lib.hid e1
            have E2 := Lib.hid e2
            rw [hXe] at hcell2
            clear e1 e2 hx hcc hX hXb hXz hXe
            generalize es[k] = nd at *
            go_wp2
            go_roundw
            case rel =>
              rw [← HX.out]
              refine ⟨k + 1, v, by omega, by go_num, ?_, xB.out, xM.out, ?_, xE.out⟩
              · rw [E1.out]; exact xI.out
              · rw [E2.out]; exact xO.out
            case measure => simp [intOf]; omega
          · rw [hx] at hcell hcell2
            obtain ⟨e1, e2⟩ := hKy.out k (by omega) hx
            have E1 := Lib.hid e1
            have E2 := Lib.hid e2
            have hMv := Lib.hid (move_box (g + 1) g (g + 2) (root + 1) k (root + 1) v (KE k) (P k) es[k] X (by omega) hnd (by omega) hPk (by omega) (by omega) (by omega) (by omega) xM.out xI.out xO.out)
            rw [hXe] at hcell2
            obtain ⟨m0, m1, m2, m3⟩ := hX.cells
            rw [hXe] at m0 m1 m2 m3
            clear e1 e2 hx hcc hX hXe
            generalize es[k] = nd at *
            go_wp2_with (fail)
            rw [← HX.out]
            refine hMv.out.mono ?_
            rintro e w3 ⟨rfl, v', hm', hi', ho', hz', hb', hj'⟩
            have hz9 : w.heap.size ≠ g + 1 := by omega
            have b3 := Lib.hid (xE.out.trans (hb' w.heap.size (by omega) (by omega)))
            have n3 : Hid (BB w3 w.heap.size nb) := by unfold Hid; exact (hj' w.heap.size (by omega) (by omega) (by omega)).trans xB.out
            have M3 := Lib.hid hm'
            have I3 := Lib.hid hi'
            have O3 := Lib.hid ho'
            clear hm' hi' ho' hb' hj' m0 m1 m2 m3 c1 c2 c3 c4 hcell hcell2
            go_wp2
            go_roundw
            case rel =>
              refine ⟨k + 1, v', by omega, by go_num, ?_, n3.out, M3.out, ?_, b3.out⟩
              · rw [E1.out]; exact I3.out
              · rw [E2.out]; exact O3.out
            case measure => simp [intOf]; omega
        · obtain rfl : k = root + 1 := by omega
          obtain ⟨AV, cv, rfl, _⟩ := OK.form Nd.hk hO.out
          obtain ⟨m0, _, _⟩ := hM.out.cells
          go_wp2
          go_ret
          rw [hKL]
          exact ⟨_, _, rfl, hO.out.lower (by omega), hBe.out⟩
end Go.Proofs.Ytmhdijklindipaa
