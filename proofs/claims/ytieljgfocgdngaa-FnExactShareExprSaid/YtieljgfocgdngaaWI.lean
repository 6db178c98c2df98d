import Derived.Test.YtieljgfocgdngaaWD
import Derived.Test.YtieljgfocgdngaaWH
import Derived.Test.YtieljgfocgdngaaD2
import Derived.WalkKit
import Derived.WalkSpells
import Derived.WalkLawsBesides
import Derived.Deep.RegionHeld3
import Derived.Lib.Hide
/- The program's kept nodes. -/
namespace Go.Proofs.Ytieljgfocgdngaa
open Go.RowKit
set_option linter.unusedVariables false
set_option maxRecDepth 100000

/-- The box of a walk that moves. -/
def MB (w : World) (q g m cc : Nat) (v : Value) (fl : Bool) : Prop := w.heap[q]? = some (.cells #[v, .bool fl, .slice (some ⟨g, 0, none⟩) m cc] 84 (0, 0))
theorem MB.lt {w : World} {q g m cc : Nat} {v : Value} {fl : Bool} (h : MB w q g m cc v fl) : q < w.heap.size := by
  rcases Nat.lt_or_ge q w.heap.size with hlt | hge
  · exact hlt
  · unfold MB at h; rw [Array.getElem?_eq_none hge] at h; cases h
theorem MB.cells {w : World} {q g m cc : Nat} {v : Value} {fl : Bool} (h : MB w q g m cc v fl) : w.cell? ⟨q, 0, none⟩ = some v ∧ w.cell? ⟨q, 1, none⟩ = some (.bool fl) ∧ w.cell? ⟨q, 2, none⟩ = some (.slice (some ⟨g, 0, none⟩) m cc) := by
  unfold MB at h; simp [World.cell?, h]
theorem MB.fz {w : World} {q g m cc : Nat} {v : Value} {fl : Bool} (h : MB w q g m cc v fl) (i : Nat) : w.frozen? ⟨q, i, none⟩ = false := by
  unfold MB at h; simp [World.frozen?, h]
theorem MB.block {w w' : World} {q g m cc : Nat} {v : Value} {fl : Bool} (h : MB w q g m cc v fl) (e : w'.heap[q]? = w.heap[q]?) : MB w' q g m cc v fl := e.trans h
theorem MB.next {w w' : World} {q g m cc : Nat} {v : Value} {fl : Bool} (h : MB w q g m cc v fl) (hb : Below w.heap.size w w') : MB w' q g m cc v fl := (hb.block q h.lt).trans h
theorem MB.set0 {w : World} {q g m cc : Nat} {v : Value} {fl : Bool} (h : MB w q g m cc v fl) (u : Value) : MB (w.setCell ⟨q, 0, none⟩ u) q g m cc u fl := by
  unfold MB at h ⊢; simp [World.setCell, Array.getElem?_modify, h]
theorem MB.set1 {w : World} {q g m cc : Nat} {v : Value} {fl : Bool} (h : MB w q g m cc v fl) (x : Bool) : MB (w.setCell ⟨q, 1, none⟩ (.bool x)) q g m cc v x := by
  unfold MB at h ⊢; simp [World.setCell, Array.getElem?_modify, h]
theorem MB.other {w : World} {q g m cc p : Nat} {v : Value} {fl : Bool} (h : MB w q g m cc v fl) (j : Nat) (x : Value) (hne : p ≠ q) : MB (w.setCell ⟨p, j, none⟩ x) q g m cc v fl :=
  (Below.heap_setCell w ⟨p, j, none⟩ x q (by simpa using Ne.symm hne)).trans h

/-- One move, told by the walk's box. -/
theorem move_box (q g L m k cc : Nat) (v : Value) (xs : List Nd) (ps : List Int) (n : Nd) (w : World) (hx : xs.length < 24) (hn : isNode n k = true) (hk : k < m) (hm : ps.length = m) (hqg : q ≠ g) (hqL : q < L) (hgL : g < L) (hL : L ≤ w.heap.size)
    (hq : MB w q g m cc v false) (hi : IB w g 3 ps) (ho : OK Nd.enc 4 62 w L w.heap.size v xs) :
    Calls Try.prog 73 #[.pointer (some ⟨q, 0, none⟩), .int .i64 k, .agg #[.string n.op, .int .i64 n.a, .int .i64 n.b, .int .i64 n.v]] w fun e w' => e = .returned (.tuple #[]) ∧ ∃ v', MB w' q g m cc v' false ∧ IB w' g 3 (ps.set k xs.length) ∧ OK Nd.enc 4 62 w' L w'.heap.size v' (xs ++ [moved n ps]) ∧ w.heap.size ≤ w'.heap.size ∧ (∀ C, C ≤ q → C ≤ g → Below C w w') ∧ ∀ j, j < L → j ≠ q → j ≠ g → w'.heap[j]? = w.heap[j]? := by
  obtain ⟨AV, cv, rfl, _⟩ := OK.form Nd.hk ho
  obtain ⟨h0, h1, h2⟩ := hq.cells
  refine (move_any q g L m k cc AV cv xs ps n w hx hn hk hm hqg hqL hgL hL h0 h1 h2 (hq.fz 0) hi ho).mono ?_
  rintro e w' ⟨rfl, v', w1, rfl, hb, ho'⟩
  refine ⟨rfl, v', ?_, ?_, ?_, ?_, ?_, ?_⟩
  · exact ((hq.block (hb.block q hqL)).set0 v').other k _ (Ne.symm hqg)
  · have : IB w1 g 3 ps := (hb.block g hgL).trans hi
    have h9 : IB (w1.setCell ⟨q, 0, none⟩ v') g 3 ps := (Below.heap_setCell w1 ⟨q, 0, none⟩ v' g (by simpa using Ne.symm hqg)).trans this
    exact h9.set k _
  · have c1 : Chg 0 L w1 ((w1.setCell ⟨q, 0, none⟩ v').setCell ⟨g, k, none⟩ (.int .i64 xs.length)) := ((Chg.refl 0 L w1).setCell (p := ⟨q, 0, none⟩) ⟨Nat.zero_le _, hqL⟩ v').setCell (p := ⟨g, k, none⟩) ⟨Nat.zero_le _, hgL⟩ _
    have := ho'.chg c1 (Or.inr (Nat.le_refl _))
    simpa [World.setCell] using this
  · have := hb.size; simpa [World.setCell] using this
  · intro C h1 h2
    exact ((hb.mono (by omega)).setCell (p := ⟨q, 0, none⟩) h1 _).setCell (p := ⟨g, k, none⟩) h2 _
  · intro j hj hjq hjg
    rw [Below.heap_setCell _ ⟨g, k, none⟩ _ j (by simpa using hjg), Below.heap_setCell _ ⟨q, 0, none⟩ _ j (by simpa using hjq)]
    exact hb.block j hj

set_option maxHeartbeats 8000000 in
theorem subExpr_any (L B : Nat) (A : Option Addr) (c root : Nat) (es : List Nd) (w : World) (hl : es.length ≤ 24) (hc : es.length ≤ c) (hr : root < es.length) (hes : NS w L B A es) (hB : B ≤ w.heap.size) (hok : okFrom es 0 = true) :
    Calls Try.prog 59 #[.slice A es.length c, .int .i64 root] w fun e w' => ∃ A' c', e = .returned (.slice A' (keepL es root).length c') ∧ OK Nd.enc 4 62 w' w.heap.size w'.heap.size (.slice A' (keepL es root).length c') (keepL es root) ∧ Below w.heap.size w w' := by
  obtain ⟨i0, hi0, hi1, hi2, hi3⟩ := info_parts Try.infoNode
  have hJ0 := Lib.hid hi0
  have hJ1 := Lib.hid hi1
  have hJ2 := Lib.hid hi2
  have hJ3 := Lib.hid hi3
  clear hi0 hi1 hi2 hi3
  have hmk := run_make_bools (root + 1) (by omega)
  have hmi := run_make_ints (root + 1) (by omega)
  have hcr : ((root + 1 : Nat) : Int) = (root : Int) + 1 := by omega
  rw [hcr] at hmk hmi
  have hE := Lib.hid fun (W : World) (hW : Below w.heap.size w W) => hes.below hW hB
  have hOk := Lib.hid hok
  have hm1 := boolCells_set (List.replicate (root + 1) false) root true
  have hB1 : Hid (BB (w.alloc (.cells (boolCells ((List.replicate (root + 1) false).set root true)) 4)) w.heap.size ((List.replicate (root + 1) false).set root true)) := by unfold Hid; exact heap_alloc_new w _
  rw [← hm1, ← needTo_start es root] at hB1
  have b1 := Lib.hid ((Below.refl w.heap.size w).alloc (Nat.le_refl _) (.cells ((boolCells (List.replicate (root + 1) false)).setIfInBounds root (.bool true)) 4))
  have hm2 : root < (boolCells (List.replicate (root + 1) false)).size := by simp [boolCells]
  have r0 : (0 : Int) ≤ (root : Int) := by omega
  have r1 : (root : Int) < (root : Int) + 1 := by omega
  have r2 : root < root + 1 := by omega
  have r3 : (root : Int) ≤ 23 := by omega
  clear hes hB hok hcr hm1
  go_enter Try.func59, Try.ntmps59
  go_wp2
  generalize w.alloc (.cells ((boolCells (List.replicate (root + 1) false)).setIfInBounds root (.bool true)) 4) = W1 at *
  clear hm2
  go_loopw [6] (fun i wr => ∃ q : Nat, q ≤ root + 1 ∧ i = .int .i64 ((q : Int) - 1) ∧ BB wr w.heap.size (needTo es root q) ∧ Below w.heap.size w wr) (fun i _ => (intOf i + 1).toNat)
  case atStart => exact ⟨root + 1, Nat.le_refl _, by go_num, hB1.out, b1.out⟩
  case round =>
    obtain ⟨q, hq, rfl, hbb, hbel⟩ := hrel
    have hBQ := Lib.hid hbb
    have hBL := Lib.hid hbel
    clear hbb hbel
    cases q with
    | succ p =>
      have hpe : p < es.length := by omega
      have hpi : ((p + 1 : Nat) : Int) - 1 = (p : Int) := by omega
      rw [hpi]
      have p0 : (0 : Int) ≤ (p : Int) := by omega
      have p1 : (p : Int) < (es.length : Int) := by omega
      obtain ⟨b, o, hA, ⟨_, hbB⟩, hcc⟩ := (hE.out wr hBL.out) (by omega)
      obtain ⟨c1, c2, c3, c4⟩ := hcc p hpe
      subst hA
      have hst := Lib.hid (needTo_step (es := es) (root := root) (m := p) (by omega) hr)
      have hnd := ok_get hOk.out hpe
      have hlen := needTo_len es root (p + 1)
      generalize hgn : needTo es root p = nb' at *
      have HN := Lib.hid hgn
      clear hgn hcc
      generalize needTo es root (p + 1) = nb at *
      generalize es[p] = nd at *
      obtain ⟨s, a, bb, v⟩ := nd
      have hpb := parts_bd hnd
      have hcp := hBQ.out.cell p (by rw [hlen]; omega)
      cases hy : nb.getD p false
      · have hnf : Hid (nb' = nb) := by
          unfold Hid; rw [hst.out]; unfold nfull nstep; rw [if_neg (by rw [hy]; decide)]
        rw [hy] at hcp
        clear hst hy hlen hpb hnd
        go_wp2
        go_roundw
        case rel =>
          refine ⟨p, by omega, rfl, ?_, hBL.out⟩
          have := hBQ.out; rw [← hnf.out, ← HN.out] at this; exact this
        case measure => simp [intOf]
      · rw [hy] at hcp
        have hss := Lib.hid fun j (hj : j < (parts ⟨s, a, bb, v⟩).length) => nstep_succ (b := nb) hj hpb
        have hnl := Lib.hid fun j => nstep_len ⟨s, a, bb, v⟩ p nb j
        have hz := nstep_zero ⟨s, a, bb, v⟩ p nb
        have hpl : (parts ⟨s, a, bb, v⟩).length ≤ 2 := parts_le _
        have hnf : Hid (nb' = nstep ⟨s, a, bb, v⟩ p nb (parts ⟨s, a, bb, v⟩).length) := hst.out
        have hyo : ∀ j (hj : j < (parts ⟨s, a, bb, v⟩).length), (nstep ⟨s, a, bb, v⟩ p nb j).set ((parts ⟨s, a, bb, v⟩)[j]).toNat true = nstep ⟨s, a, bb, v⟩ p nb (j + 1) := by
          intro j hj; have := hss.out j hj; rw [hy, Bool.or_true] at this; exact this
        have hYO := Lib.hid hyo
        clear hst hy hss hyo hnd
        go_wp2_with (fail)
        refine (operandsOf_any _ _ _ _ _).mono ?_
        rintro e w2 ⟨A2, cc, rfl, hIS, hb2⟩
        have hI2 := Lib.hid hIS
        have hbel2 := Lib.hid (hBL.out.trans (hb2.mono hBL.out.size))
        have hB2 := Lib.hid (hBQ.out.next hb2)
        have hglt := hBQ.out.lt
        clear hIS hb2 c1 c2 c3 c4 hcp
        generalize parts ⟨s, a, bb, v⟩ = ps at *
        generalize nstep ⟨s, a, bb, v⟩ p nb = ns at *
        go_wp2_with (fail)
        go_loopw [33] (fun i wi => ∃ j : Nat, j ≤ ps.length ∧ i = .int .i64 j ∧ BB wi w.heap.size (ns j) ∧ Below w.heap.size w wi ∧ IS wi (w.heap.size + 1) wi.heap.size A2 ps) (fun i _ => ps.length - (intOf i).toNat)
        case atStart =>
          refine ⟨0, Nat.zero_le _, rfl, ?_, hbel2.out, hI2.out.more ?_ (Nat.le_refl _)⟩
          · rw [hz]; exact hB2.out
          · omega
        case round =>
          obtain ⟨j, hj, rfl, hib, hbel3, his⟩ := hrel
          have hIB3 := Lib.hid hib
          have hIS3 := Lib.hid his
          have hBL3 := Lib.hid hbel3
          clear hib his hbel3
          by_cases hjt : j < ps.length
          · obtain ⟨b2, o2, rfl, hbb, hc⟩ := hIS3.out (by omega)
            have hcj := hc j hjt
            obtain ⟨hq0, hq1⟩ := hpb _ (List.getElem_mem hjt)
            have hSj := Lib.hid (hYO.out j hjt)
            obtain ⟨q, hq⟩ := Int.eq_ofNat_of_zero_le hq0
            have hql : q < root + 1 := by omega
            rw [hq] at hcj
            have hSj' : Hid ((ns j).set q true = ns (j + 1)) := by
              have := hSj.out; rw [hq, Int.toNat_natCast] at this; exact this
            clear hc hq hq0 hq1 hSj
            have hcu := hIB3.out.cell q (by rw [hnl.out, hlen]; exact hql)
            have hfu := hIB3.out.frozen q
            clear hpb
            generalize ns j = us at *
            generalize us.getD q false = x at *
            have hK := Lib.hid fun (z : Bool) => hIS3.out.keep (w' := wr.setCell ⟨w.heap.size, q, none⟩ (.bool z)) fun p hp _ => World.cell?_setCell_other wr _ p _ (fun e => by subst e; have h9 : w.heap.size + 1 ≤ w.heap.size := hp; omega)
            go_wp2
            go_roundw
            case rel =>
              refine ⟨j + 1, by omega, by go_num, ?_, hBL3.out.setCell (Nat.le_refl _) _, ?_⟩
              · have := hIB3.out.set q true; rw [← hSj'.out]; simpa using this
              · exact (hK.out true).more (Nat.le_refl _) (by simp [World.setCell])
            case measure => simp [intOf]; omega
          · obtain rfl : j = ps.length := by omega
            go_wp2
            go_roundw
            case rel =>
              refine ⟨p, by omega, rfl, ?_, hBL3.out⟩
              have := hIB3.out; rw [← hnf.out, ← HN.out] at this; exact this
            case measure => simp [intOf]
    | zero =>
      rw [show (((0 : Nat) : Int) - 1) = -1 from rfl]
      clear hmk hB1 b1
      have hsz := hBL.out.size
      have bP := Lib.hid (hBL.out.alloc hsz (.cells (intCells (zeros (root + 1))) 3))
      have nbP := Lib.hid (hBQ.out.next ((Below.refl wr.heap.size wr).alloc (Nat.le_refl _) (.cells (intCells (zeros (root + 1))) 3)))
      have iP : Hid (IB (wr.alloc (.cells (intCells (zeros (root + 1))) 3)) wr.heap.size 3 (zeros (root + 1))) := by unfold Hid; exact heap_alloc_new wr _
      have hnl := needTo_len es root 0
      have hKL : keepL es root = ke es (needTo es root 0) (root + 1) (root + 1) := rfl
      have hPl := Lib.hid (pl_len es (needTo es root 0) (root + 1))
      have hKe := Lib.hid (ke_len es (needTo es root 0) (root + 1))
      have hlt0 := hBQ.out.lt
      have hKy := Lib.hid fun k (hk : k < es.length) => kp_yes (m := root + 1) (nb := needTo es root 0) hk
      have hKn := Lib.hid fun k => kp_no (es := es) (m := root + 1) (nb := needTo es root 0) (k := k)
      have hp0 : pl es (needTo es root 0) (root + 1) 0 = zeros (root + 1) := rfl
      have hk0 : ke es (needTo es root 0) (root + 1) 0 = [] := rfl
      have hzP : (wr.alloc (.cells (intCells (zeros (root + 1))) 3)).heap.size = wr.heap.size + 1 := by simp
      clear hBQ
      generalize needTo es root 0 = nb at *
      generalize pl es nb (root + 1) = P at *
      generalize ke es nb (root + 1) = KE at *
      obtain ⟨WQ, hWQ⟩ : ∃ WQ, WQ = (wr.alloc (.cells (intCells (zeros (root + 1))) 3)).alloc (.cells #[.slice none 0 0, .bool false, .slice (some ⟨wr.heap.size, 0, none⟩) (root + 1) (root + 1)] 84) := ⟨_, rfl⟩
      have aQ := (Below.refl (wr.alloc (.cells (intCells (zeros (root + 1))) 3)).heap.size (wr.alloc (.cells (intCells (zeros (root + 1))) 3))).alloc (Nat.le_refl _) (.cells #[.slice none 0 0, .bool false, .slice (some ⟨wr.heap.size, 0, none⟩) (root + 1) (root + 1)] 84)
      rw [← hWQ] at aQ
      have bQ := Lib.hid (bP.out.trans (aQ.mono bP.out.size))
      have nbQ := Lib.hid (nbP.out.next aQ)
      have iQ := Lib.hid (iP.out.below aQ iP.out.lt)
      have mQ : Hid (MB WQ (wr.heap.size + 1) wr.heap.size (root + 1) (root + 1) (.slice none 0 0) false) := by
        unfold Hid; rw [← hzP, hWQ]; exact heap_alloc_new _ _
      have zQ : WQ.heap.size = wr.heap.size + 2 := by rw [hWQ]; simp
      have hWQ' := Lib.hid hWQ
      clear hWQ aQ bP nbP iP hzP
      obtain ⟨b, o, hA, ⟨_, hbB⟩, hcc⟩ := (hE.out wr hBL.out) (by omega)
      subst hA
      clear hcc hbB
      go_wp2_with (fail)
      rw [← hWQ'.out]
      clear hWQ' hmi
      generalize wr.heap.size = g at *
      go_loopw [50] (fun i wi => ∃ (k : Nat) (v : Value), k ≤ root + 1 ∧ i = .int .i64 k ∧ IB wi g 3 (P k) ∧ BB wi w.heap.size nb ∧ MB wi (g + 1) g (root + 1) (root + 1) v false ∧ OK Nd.enc 4 62 wi (g + 2) wi.heap.size v (KE k) ∧ Below w.heap.size w wi) (fun i _ => root + 1 - (intOf i).toNat)
      case atStart =>
        refine ⟨0, .slice none 0 0, Nat.zero_le _, rfl, ?_, nbQ.out, mQ.out, ?_, bQ.out⟩
        · rw [hp0]; exact iQ.out
        · rw [hk0]; exact OK.nil _ _ _ _
      case round =>
        obtain ⟨k, v, hk, rfl, hi, hb, hm, ho, hbel⟩ := hrel
        have hI := Lib.hid hi
        have hBn := Lib.hid hb
        have hM := Lib.hid hm
        have hO := Lib.hid ho
        have hBe := Lib.hid hbel
        clear hi hb hm ho hbel nbQ mQ iQ bQ
        by_cases hlt : k < root + 1
        · obtain ⟨b', o', hA, ⟨_, hbB⟩, hcc⟩ := (hE.out wr hBe.out) (by omega)
          obtain ⟨c1, c2, c3, c4⟩ := hcc k (by omega)
          injection hA with hA
          injection hA with hA1 hA2
          subst hA1; subst hA2
          have hcell := hBn.out.cell k (by omega)
          have k0 : (0 : Int) ≤ (k : Int) := by omega
          have k1 : (k : Int) < (root : Int) + 1 := by omega
          have hnd := ok_get hOk.out (show k < es.length by omega)
          have hX := xn_new wr es[k]
          have hXb := (Below.refl wr.heap.size wr).alloc (Nat.le_refl _) (.cells #[.string es[k].op, .int .i64 es[k].a, .int .i64 es[k].b, .int .i64 es[k].v] 62)
          have hXz : (wr.alloc (.cells #[.string es[k].op, .int .i64 es[k].a, .int .i64 es[k].b, .int .i64 es[k].v] 62)).heap.size = wr.heap.size + 1 := by simp
          have hcell2 := (hXb.cell (p := ⟨w.heap.size, k, none⟩) hBn.out.lt).trans hcell
          obtain ⟨X, hXe⟩ : ∃ X, X = wr.alloc (.cells #[.string es[k].op, .int .i64 es[k].a, .int .i64 es[k].b, .int .i64 es[k].v] 62) := ⟨_, rfl⟩
          rw [← hXe] at hX hXb hXz hcell2
          have xI := Lib.hid (hI.out.below hXb hI.out.lt)
          have xB := Lib.hid (hBn.out.next hXb)
          have xM := Lib.hid (hM.out.next hXb)
          have xO := Lib.hid ((hO.out.below hXb (Nat.le_refl _)).more hXb.size)
          have xE := Lib.hid (hBe.out.trans (hXb.mono hBe.out.size))
          have hgL : g + 2 ≤ wr.heap.size := by have := hM.out.lt; omega
          have HX := Lib.hid hXe
          have hkl := hKe.out k
          have hPk := hPl.out k
          cases hx : nb.getD k false
          · rw [hx] at hcell hcell2
            obtain ⟨e1, e2⟩ := hKn.out k hx
            have E1 := Lib.hid e1
            have E2 := Lib.hid e2
            rw [hXe] at hcell2
            clear e1 e2 hx hcc hX hXb hXz hXe
            generalize es[k] = nd at *
            go_wp2
            go_roundw
            case rel =>
              rw [← HX.out]
              refine ⟨k + 1, v, by omega, by go_num, ?_, xB.out, xM.out, ?_, xE.out⟩
              · rw [E1.out]; exact xI.out
              · rw [E2.out]; exact xO.out
            case measure => simp [intOf]; omega
          · rw [hx] at hcell hcell2
            obtain ⟨e1, e2⟩ := hKy.out k (by omega) hx
            have E1 := Lib.hid e1
            have E2 := Lib.hid e2
            have hMv := Lib.hid (move_box (g + 1) g (g + 2) (root + 1) k (root + 1) v (KE k) (P k) es[k] X (by omega) hnd (by omega) hPk (by omega) (by omega) (by omega) (by omega) xM.out xI.out xO.out)
            rw [hXe] at hcell2
            obtain ⟨m0, m1, m2, m3⟩ := hX.cells
            rw [hXe] at m0 m1 m2 m3
            clear e1 e2 hx hcc hX hXe
            generalize es[k] = nd at *
            go_wp2_with (fail)
            rw [← HX.out]
            refine hMv.out.mono ?_
            rintro e w3 ⟨rfl, v', hm', hi', ho', hz', hb', hj'⟩
            have hz9 : w.heap.size ≠ g + 1 := by omega
            have b3 := Lib.hid (xE.out.trans (hb' w.heap.size (by omega) (by omega)))
            have n3 : Hid (BB w3 w.heap.size nb) := by unfold Hid; exact (hj' w.heap.size (by omega) (by omega) (by omega)).trans xB.out
            have M3 := Lib.hid hm'
            have I3 := Lib.hid hi'
            have O3 := Lib.hid ho'
            clear hm' hi' ho' hb' hj' m0 m1 m2 m3 c1 c2 c3 c4 hcell hcell2
            go_wp2
            go_roundw
            case rel =>
              refine ⟨k + 1, v', by omega, by go_num, ?_, n3.out, M3.out, ?_, b3.out⟩
              · rw [E1.out]; exact I3.out
              · rw [E2.out]; exact O3.out
            case measure => simp [intOf]; omega
        · obtain rfl : k = root + 1 := by omega
          obtain ⟨AV, cv, rfl, _⟩ := OK.form Nd.hk hO.out
          obtain ⟨m0, _, _⟩ := hM.out.cells
          go_wp2
          go_ret
          rw [hKL]
          exact ⟨_, _, rfl, hO.out.lower (by omega), hBe.out⟩
end Go.Proofs.Ytieljgfocgdngaa
