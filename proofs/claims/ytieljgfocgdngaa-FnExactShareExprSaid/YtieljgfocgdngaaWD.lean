import Derived.Test.YtieljgfocgdngaaWC
import Derived.Test.YtieljgfocgdngaaE
import Derived.Test.YtieljgfocgdngaaMN
import Derived.Test.YtieljgfocgdngaaKNode
import Derived.WalkKit
import Derived.WalkSpells
import Derived.WalkLawsBesides
import Derived.Deep.RegionHeld3
import Derived.Lib.Hide
/- The model's kept nodes. -/
namespace Go.Proofs.Ytieljgfocgdngaa
open Go.RowKit
set_option linter.unusedVariables false
set_option maxRecDepth 100000

theorem parts_bd {n : Nd} {k : Nat} (h : isNode n k = true) : ∀ p ∈ parts n, 0 ≤ p ∧ p ≤ (k : Int) - 1 := by
  intro p hp
  rcases ar_cases_nd h with ⟨_, h2, h3, _⟩ | ⟨_, h2, h3, h4, h5, _⟩ | ⟨_, h2, h3, h4, h5, h6, h7⟩
  · simp [parts, h2, h3] at hp
  · simp [parts, h2] at hp; subst hp; omega
  · simp [parts, h2, h3] at hp
    rcases hp with hp | hp <;> subst hp <;> omega

theorem four_one (y : Nd) : ∀ u ∈ Nd.enc y, u.oneCell' = true := by intro u hu; simp [Nd.enc] at hu; rcases hu with rfl | rfl | rfl | rfl <;> rfl
theorem four_new {w : World} {g : Nat} (y : Nd) (hg : w.heap.size = g) {t : TypeId} : ∀ j u, (Nd.enc y)[j]? = some u → (w.alloc (.cells #[.string y.op, .int .i64 y.a, .int .i64 y.b, .int .i64 y.v] t)).cell? ((⟨g, 0, none⟩ : Addr).add j) = some u := by
  subst hg
  intro j u hu
  rw [addr_add]
  have : CB t (w.alloc (.cells #[.string y.op, .int .i64 y.a, .int .i64 y.b, .int .i64 y.v] t)) w.heap.size (Nd.enc y) := heap_alloc_new w _
  rw [this.cell]; exact hu
theorem nflat_snoc (l : List Nd) (y : Nd) : (l ++ [y]).flatMap Nd.enc = l.flatMap Nd.enc ++ Nd.enc y := by simp
theorem parts_le (n : Nd) : (parts n).length ≤ 2 := by
  unfold parts
  repeat' split
  all_goals simp only [List.length_cons, List.length_nil]
  all_goals decide
theorem boolCells_set (bs : List Bool) (i : Nat) (x : Bool) : (boolCells bs).setIfInBounds i (.bool x) = boolCells (bs.set i x) := by
  apply Array.ext'; simp [boolCells, List.map_set]

set_option maxHeartbeats 8000000 in
theorem exKeep_any (L B : Nat) (A : Option Addr) (c root : Nat) (es : List Nd) (w : World) (hl : es.length ≤ 24) (hr : root < es.length) (hes : NS w L B A es) (hB : B ≤ w.heap.size) (hok : okFrom es 0 = true) :
    Calls Try.prog 56 #[.slice A es.length c, .int .i64 root] w fun e w' => ∃ A' c', e = .returned (.slice A' (keepL es root).length c') ∧ OK Nd.enc 4 62 w' w.heap.size w'.heap.size (.slice A' (keepL es root).length c') (keepL es root) ∧ Below w.heap.size w w' := by
  obtain ⟨i0, hi0, hi1, hi2, hi3⟩ := info_parts Try.infoNode
  have hJ0 := Lib.hid hi0
  have hJ1 := Lib.hid hi1
  have hJ2 := Lib.hid hi2
  have hJ3 := Lib.hid hi3
  clear hi0 hi1 hi2 hi3
  have hmk := run_make_bools (root + 1) (by omega)
  have hmi := run_make_ints (root + 1) (by omega)
  have hcr : ((root + 1 : Nat) : Int) = (root : Int) + 1 := by omega
  rw [hcr] at hmk hmi
  have hE := Lib.hid fun (W : World) (hW : Below w.heap.size w W) => hes.below hW hB
  have hOk := Lib.hid hok
  have hm1 := boolCells_set (List.replicate (root + 1) false) root true
  have hB1 : Hid (BB (w.alloc (.cells (boolCells ((List.replicate (root + 1) false).set root true)) 4)) w.heap.size ((List.replicate (root + 1) false).set root true)) := by unfold Hid; exact heap_alloc_new w _
  rw [← hm1, ← needTo_start es root] at hB1
  have b1 := Lib.hid ((Below.refl w.heap.size w).alloc (Nat.le_refl _) (.cells ((boolCells (List.replicate (root + 1) false)).setIfInBounds root (.bool true)) 4))
  have hm2 : root < (boolCells (List.replicate (root + 1) false)).size := by simp [boolCells]
  have r0 : (0 : Int) ≤ (root : Int) := by omega
  have r1 : (root : Int) < (root : Int) + 1 := by omega
  have r2 : root < root + 1 := by omega
  have r3 : (root : Int) ≤ 23 := by omega
  clear hes hB hok hcr hm1
  go_enter Try.func56, Try.ntmps56
  go_wp2
  generalize w.alloc (.cells ((boolCells (List.replicate (root + 1) false)).setIfInBounds root (.bool true)) 4) = W1 at *
  clear hm2
  go_loopw [6] (fun i wr => ∃ q : Nat, q ≤ root + 1 ∧ i = .int .i64 ((q : Int) - 1) ∧ BB wr w.heap.size (needTo es root q) ∧ Below w.heap.size w wr) (fun i _ => (intOf i + 1).toNat)
  case atStart => exact ⟨root + 1, Nat.le_refl _, by go_num, hB1.out, b1.out⟩
  case round =>
    obtain ⟨q, hq, rfl, hbb, hbel⟩ := hrel
    have hBQ := Lib.hid hbb
    have hBL := Lib.hid hbel
    clear hbb hbel
    cases q with
    | succ p =>
      have hpe : p < es.length := by omega
      have hpi : ((p + 1 : Nat) : Int) - 1 = (p : Int) := by omega
      rw [hpi]
      have p0 : (0 : Int) ≤ (p : Int) := by omega
      have p1 : (p : Int) < (es.length : Int) := by omega
      obtain ⟨b, o, hA, ⟨_, hbB⟩, hc⟩ := (hE.out wr hBL.out) (by omega)
      obtain ⟨c1, c2, c3, c4⟩ := hc p hpe
      subst hA
      have hst := Lib.hid (needTo_step (es := es) (root := root) (m := p) (by omega) hr)
      have hnd := ok_get hOk.out hpe
      have hlen := needTo_len es root (p + 1)
      generalize hgn : needTo es root p = nb' at *
      have HN := Lib.hid hgn
      clear hgn hc
      generalize needTo es root (p + 1) = nb at *
      generalize es[p] = nd at *
      obtain ⟨s, a, bb, v⟩ := nd
      have hpb := parts_bd hnd
      have hss := Lib.hid fun j (hj : j < (parts ⟨s, a, bb, v⟩).length) => nstep_succ (b := nb) hj hpb
      have hself := Lib.hid fun j => nstep_self nb j hpb
      have hnl := Lib.hid fun j => nstep_len ⟨s, a, bb, v⟩ p nb j
      have hz := nstep_zero ⟨s, a, bb, v⟩ p nb
      have hpl : (parts ⟨s, a, bb, v⟩).length ≤ 2 := parts_le _
      have hnf : Hid (nb' = nstep ⟨s, a, bb, v⟩ p nb (parts ⟨s, a, bb, v⟩).length) := hst.out
      clear hnf
      go_wp2_with (fail)
      refine (exParts_any _ _ _ _ _).mono ?_
      rintro e w2 ⟨A2, cc, rfl, hIS, hb2⟩
      have hI2 := Lib.hid hIS
      have hbel2 := Lib.hid (hBL.out.trans (hb2.mono hBL.out.size))
      have hB2 := Lib.hid (hBQ.out.next hb2)
      have hglt := hBQ.out.lt
      clear hIS hb2 c1 c2 c3 c4 hnd
      have hnf : Hid (nb' = nstep ⟨s, a, bb, v⟩ p nb (parts ⟨s, a, bb, v⟩).length) := hst.out
      clear hst
      generalize parts ⟨s, a, bb, v⟩ = ps at *
      generalize nstep ⟨s, a, bb, v⟩ p nb = ns at *
      go_wp2_with (fail)
      go_loopw [29] (fun i wi => ∃ j : Nat, j ≤ ps.length ∧ i = .int .i64 j ∧ BB wi w.heap.size (ns j) ∧ Below w.heap.size w wi ∧ IS wi (w.heap.size + 1) wi.heap.size A2 ps) (fun i _ => ps.length - (intOf i).toNat)
      case atStart =>
        refine ⟨0, Nat.zero_le _, rfl, ?_, hbel2.out, hI2.out.more ?_ (Nat.le_refl _)⟩
        · rw [hz]; exact hB2.out
        · omega
      case round =>
        obtain ⟨j, hj, rfl, hib, hbel3, his⟩ := hrel
        have hIB3 := Lib.hid hib
        have hIS3 := Lib.hid his
        have hBL3 := Lib.hid hbel3
        clear hib his hbel3
        by_cases hjt : j < ps.length
        · obtain ⟨b2, o2, rfl, hbb, hc⟩ := hIS3.out (by omega)
          have hcj := hc j hjt
          obtain ⟨hq0, hq1⟩ := hpb _ (List.getElem_mem hjt)
          have hSj := Lib.hid (hss.out j hjt)
          obtain ⟨q, hq⟩ := Int.eq_ofNat_of_zero_le hq0
          have hql : q < root + 1 := by omega
          have hpl' : p < root + 1 := by omega
          rw [hq] at hcj
          have hSj' : Hid ((ns j).set q ((ns j).getD q false || nb.getD p false) = ns (j + 1)) := by
            have := hSj.out; rw [hq, Int.toNat_natCast] at this; exact this
          clear hc hq hq0 hq1 hSj
          have hcu := hIB3.out.cell q (by rw [hnl.out, hlen]; exact hql)
          have hcp := hIB3.out.cell p (by rw [hnl.out, hlen]; exact hpl')
          rw [hself.out j] at hcp
          have hfu := hIB3.out.frozen q
          clear hpb hss
          generalize ns j = us at *
          generalize us.getD q false = x at *
          generalize nb.getD p false = y at *
          have hK := Lib.hid fun (z : Bool) => hIS3.out.keep (w' := wr.setCell ⟨w.heap.size, q, none⟩ (.bool z)) fun p hp _ => World.cell?_setCell_other wr _ p _ (fun e => by subst e; have h9 : w.heap.size + 1 ≤ w.heap.size := hp; omega)
          cases x
          all_goals
            go_wp2
            go_roundw
          case rel =>
            refine ⟨j + 1, by omega, by go_num, ?_, hBL3.out.setCell (Nat.le_refl _) _, ?_⟩
            · have := hIB3.out.set q y; rw [← hSj'.out]; simpa using this
            · exact (hK.out y).more (Nat.le_refl _) (by simp [World.setCell])
          case measure => simp [intOf]; omega
          case rel =>
            refine ⟨j + 1, by omega, by go_num, ?_, hBL3.out.setCell (Nat.le_refl _) _, ?_⟩
            · have := hIB3.out.set q true; rw [← hSj'.out]; simpa using this
            · exact (hK.out true).more (Nat.le_refl _) (by simp [World.setCell])
          case measure => simp [intOf]; omega
        · obtain rfl : j = ps.length := by omega
          go_wp2
          go_roundw
          case rel =>
            refine ⟨p, by omega, rfl, ?_, hBL3.out⟩
            have := hIB3.out; rw [← hnf.out, ← HN.out] at this; exact this
          case measure => simp [intOf]
    | zero =>
      rw [show (((0 : Nat) : Int) - 1) = -1 from rfl]
      clear hmk hB1 b1
      have hsz := hBL.out.size
      have bP := Lib.hid (hBL.out.alloc hsz (.cells (intCells (zeros (root + 1))) 3))
      have nbP := Lib.hid (hBQ.out.next ((Below.refl wr.heap.size wr).alloc (Nat.le_refl _) (.cells (intCells (zeros (root + 1))) 3)))
      have iP : Hid (IB (wr.alloc (.cells (intCells (zeros (root + 1))) 3)) wr.heap.size 3 (zeros (root + 1))) := by unfold Hid; exact heap_alloc_new wr _
      have hnl := needTo_len es root 0
      have hKL : keepL es root = ke es (needTo es root 0) (root + 1) (root + 1) := rfl
      have hPl := Lib.hid (pl_len es (needTo es root 0) (root + 1))
      have hKe := Lib.hid (ke_len es (needTo es root 0) (root + 1))
      have hlt0 := hBQ.out.lt
      have hKy := Lib.hid fun k (hk : k < es.length) => kp_yes (m := root + 1) (nb := needTo es root 0) hk
      have hKn := Lib.hid fun k => kp_no (es := es) (m := root + 1) (nb := needTo es root 0) (k := k)
      have hp0 : pl es (needTo es root 0) (root + 1) 0 = zeros (root + 1) := rfl
      have hk0 : ke es (needTo es root 0) (root + 1) 0 = [] := rfl
      clear hBQ
      generalize needTo es root 0 = nb at *
      generalize pl es nb (root + 1) = P at *
      generalize ke es nb (root + 1) = KE at *
      go_wp2_with (fail)
      generalize wr.alloc (.cells (intCells (zeros (root + 1))) 3) = WP at *
      have hgW := iP.out.lt
      generalize wr.heap.size = g at *
      clear hmi
      go_loopw [10, 11] (fun v i wi => ∃ k : Nat, k ≤ root + 1 ∧ i = .int .i64 k ∧ IB wi g 3 (P k) ∧ BB wi w.heap.size nb ∧ OK Nd.enc 4 62 wi (g + 1) wi.heap.size v (KE k) ∧ Below w.heap.size w wi) (fun _ i _ => root + 1 - (intOf i).toNat)
      case atStart =>
        refine ⟨0, Nat.zero_le _, rfl, ?_, nbP.out, ?_, bP.out⟩
        · rw [hp0]; exact iP.out
        · rw [hk0]; exact OK.nil _ _ _ _
      case round =>
        obtain ⟨k, hk, rfl, hi, hb, ho, hbel⟩ := hrel
        obtain ⟨AV, cv, rfl, _⟩ := OK.form Nd.hk ho
        have hI := Lib.hid hi
        have hBn := Lib.hid hb
        have hO := Lib.hid ho
        have hBe := Lib.hid hbel
        clear hi hb ho hbel nbP iP bP
        by_cases hlt : k < root + 1
        · have hcell := hBn.out.cell k (by omega)
          cases hx : nb.getD k false
          · rw [hx] at hcell
            obtain ⟨e1, e2⟩ := hKn.out k hx
            have E1 := Lib.hid e1
            have E2 := Lib.hid e2
            clear e1 e2 hx
            have k0 : (k : Int) ≤ (root : Int) := by omega
            go_wp2
            go_roundw
            case rel =>
              refine ⟨k + 1, by omega, by go_num, ?_, hBn.out, ?_, hBe.out⟩
              · rw [E1.out]; exact hI.out
              · rw [E2.out]; exact hO.out
            case measure => simp [intOf]; omega
          · rw [hx] at hcell
            obtain ⟨e1, e2⟩ := hKy.out k (by omega) hx
            have hnd := ok_get hOk.out (show k < es.length by omega)
            have hkl := hKe.out k
            have E1 := Lib.hid e1
            have E2 := Lib.hid e2
            clear e1 e2 hx
            have k0 : (k : Int) ≤ (root : Int) := by omega
            have k1 : (0 : Int) ≤ (k : Int) := by omega
            have k2 : (k : Int) < (es.length : Int) := by omega
            have hgw := hI.out.lt
            have hic := hI.out.cell k (by rw [hPl.out]; exact hlt)
            have hif := hI.out.frozen k
            obtain ⟨W2, hW2⟩ : ∃ W2, W2 = wr.setCell ⟨g, k, none⟩ (.int .i64 ((KE k).length : Int)) := ⟨_, rfl⟩
            have iW : Hid (IB W2 g 3 (P (k + 1))) := by unfold Hid; rw [hW2, E1.out]; exact hI.out.set k _
            have bW : Hid (BB W2 w.heap.size nb) := by unfold Hid; rw [hW2]; exact hBn.out.other k _ (by omega)
            have cW : Hid (Chg g (g + 1) wr W2) := by unfold Hid; rw [hW2]; exact (Chg.refl _ _ _).setCell (by show g ≤ g ∧ g < g + 1; omega) _
            have zW : W2.heap.size = wr.heap.size := by rw [hW2]; simp [World.setCell]
            have oW : Hid (OK Nd.enc 4 62 W2 (g + 1) W2.heap.size (.slice AV (KE k).length cv) (KE k)) := by unfold Hid; rw [zW]; exact hO.out.chg cW.out (Or.inr (Nat.le_refl _))
            have eW : Hid (Below w.heap.size w W2) := below_chg hBe.out cW.out hBe.out.size (by omega)
            have nW := hE.out W2 eW.out
            obtain ⟨b, o, hA, ⟨_, hbB⟩, hc⟩ := nW (by omega)
            obtain ⟨c1, c2, c3, c4⟩ := hc k (by omega)
            subst hA
            have hmv := Lib.hid (moved_set hnd (P k) ((KE k).length : Int))
            rw [← E1.out] at hmv
            have hEx := Lib.hid (exMoved_any g (g + 1) (some ⟨g, 0, none⟩) (root + 1) (root + 1) k es[k] (P (k + 1)) W2 (hPl.out _) hnd hlt iW.out.toIS (by rw [zW]; omega))
            have hPk := hPl.out (k + 1)
            generalize hPK : P (k + 1) = Pk at *
            have HPK := Lib.hid hPK
            clear hPK
            rw [hmv.out] at hEx
            clear hc hmv nW
            generalize moved es[k] (P k) = mv at *
            generalize es[k] = nd at *
            rw [hW2] at c1 c2 c3 c4
            have HW2 := Lib.hid hW2
            clear hW2
            go_wp2_with (fail)
            rw [← HW2.out]
            refine hEx.out.mono ?_
            rintro e w3 ⟨rfl, hb3⟩
            have hz3 := hb3.size
            have b3 := Lib.hid (eW.out.trans (hb3.mono eW.out.size))
            have i3 := Lib.hid (iW.out.below hb3 iW.out.lt)
            have n3 := Lib.hid (bW.out.next hb3)
            have o3 := Lib.hid ((oW.out.below hb3 (Nat.le_refl _)).more hz3)
            clear hb3 c1 c2 c3 c4 hcell hic hif
            have hal := fun o => (Below.refl w3.heap.size w3).alloc (Nat.le_refl _) o
            have hO4 := fun o => Lib.hid (show (w3.alloc o).ownsRow (g + 1) 62 4 (.slice AV (KE k).length cv) (KE k).length ((KE k).flatMap Nd.enc) from (o3.out.below (hal o) (Nat.le_refl _)).1)
            have hz4 : g + 1 ≤ w3.heap.size := by omega
            go_wp2_with (at_builtin; refine wpList_append_own _ rfl _ _ 24 rfl (g + 1) 62 i0 _ 4 40 Try.underlying24 hJ0.out hJ1.out hJ2.out hJ3.out rfl (by decide) _ (KE k).length _ rfl (hO4 _).out ⟨w3.heap.size, 0, none⟩ 1 1 (Nd.enc mv) rfl rfl (four_new mv rfl) (four_one _) (by unfold maxLen; omega) (by omega) (by simp; omega) ?_; intro v' w1 hown1 hgr1 _)
            go_roundw
            case rel =>
              have hl0 := o3.out.lo
              have hc1 := Lib.hid ((hal (.cells #[.string mv.op, .int .i64 mv.a, .int .i64 mv.b, .int .i64 mv.v] 62)).mono (show g + 1 ≤ w3.heap.size from hz4))
              have hg1 : Below (g + 1) w3 w1 := hc1.out.grown hgr1 (by simp; omega) (fun j hj => (hl0 j hj).1)
              refine ⟨k + 1, by omega, by go_num, by rw [HPK.out]; exact (hg1.block g (by omega)).trans i3.out, (hg1.block _ (by omega)).trans n3.out, ?_, b3.out.trans (hg1.mono (by omega))⟩
              rw [E2.out]
              refine ⟨?_, fun j hj => (hown1.lt j hj).2⟩
              rw [nflat_snoc, List.length_append]; exact hown1
            case measure => simp [intOf]; omega
        · obtain rfl : k = root + 1 := by omega
          go_wp2
          go_ret
          rw [hKL]
          exact ⟨_, _, rfl, hO.out.lower (by omega), hBe.out⟩
end Go.Proofs.Ytieljgfocgdngaa
