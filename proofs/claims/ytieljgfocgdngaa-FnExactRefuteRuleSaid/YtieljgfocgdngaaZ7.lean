/- Texts of this proof, one behind the other: WI, XE, XF, XG, FA, RD. -/
import Derived.Test.YtieljgfocgdngaaWD
import Derived.Test.YtieljgfocgdngaaWH
import Derived.Test.YtieljgfocgdngaaD2
import Derived.WalkKit
import Derived.WalkSpells
import Derived.WalkLawsBesides
import Derived.Deep.RegionHeld3
import Derived.Lib.Hide
import Derived.Deep.AppendLies
import Derived.Test.YtieljgfocgdngaaWF
import Derived.Test.YtieljgfocgdngaaWM
import Derived.Test.YtieljgfocgdngaaK2
import Derived.Test.YtieljgfocgdngaaJ
/- The program's kept nodes. -/
namespace Go.Proofs.Ytieljgfocgdngaa
open Go.RowKit
set_option linter.unusedVariables false
set_option maxRecDepth 100000

/-- The box of a walk that moves. -/
def MB (w : World) (q g m cc : Nat) (v : Value) (fl : Bool) : Prop := w.heap[q]? = some (.cells #[v, .bool fl, .slice (some ⟨g, 0, none⟩) m cc] 84 (0, 0))
theorem MB.lt {w : World} {q g m cc : Nat} {v : Value} {fl : Bool} (h : MB w q g m cc v fl) : q < w.heap.size := by
  rcases Nat.lt_or_ge q w.heap.size with hlt | hge
  · exact hlt
  · unfold MB at h; rw [Array.getElem?_eq_none hge] at h; cases h
theorem MB.cells {w : World} {q g m cc : Nat} {v : Value} {fl : Bool} (h : MB w q g m cc v fl) : w.cell? ⟨q, 0, none⟩ = some v ∧ w.cell? ⟨q, 1, none⟩ = some (.bool fl) ∧ w.cell? ⟨q, 2, none⟩ = some (.slice (some ⟨g, 0, none⟩) m cc) := by
  unfold MB at h; simp [World.cell?, h]
theorem MB.fz {w : World} {q g m cc : Nat} {v : Value} {fl : Bool} (h : MB w q g m cc v fl) (i : Nat) : w.frozen? ⟨q, i, none⟩ = false := by
  unfold MB at h; simp [World.frozen?, h]
theorem MB.block {w w' : World} {q g m cc : Nat} {v : Value} {fl : Bool} (h : MB w q g m cc v fl) (e : w'.heap[q]? = w.heap[q]?) : MB w' q g m cc v fl := e.trans h
theorem MB.next {w w' : World} {q g m cc : Nat} {v : Value} {fl : Bool} (h : MB w q g m cc v fl) (hb : Below w.heap.size w w') : MB w' q g m cc v fl := (hb.block q h.lt).trans h
theorem MB.set0 {w : World} {q g m cc : Nat} {v : Value} {fl : Bool} (h : MB w q g m cc v fl) (u : Value) : MB (w.setCell ⟨q, 0, none⟩ u) q g m cc u fl := by
  unfold MB at h ⊢; simp [World.setCell, Array.getElem?_modify, h]
theorem MB.set1 {w : World} {q g m cc : Nat} {v : Value} {fl : Bool} (h : MB w q g m cc v fl) (x : Bool) : MB (w.setCell ⟨q, 1, none⟩ (.bool x)) q g m cc v x := by
  unfold MB at h ⊢; simp [World.setCell, Array.getElem?_modify, h]
theorem MB.other {w : World} {q g m cc p : Nat} {v : Value} {fl : Bool} (h : MB w q g m cc v fl) (j : Nat) (x : Value) (hne : p ≠ q) : MB (w.setCell ⟨p, j, none⟩ x) q g m cc v fl :=
  (Below.heap_setCell w ⟨p, j, none⟩ x q (by simpa using Ne.symm hne)).trans h

/-- One move, told by the walk's box. -/
theorem move_box (q g L m k cc : Nat) (v : Value) (xs : List Nd) (ps : List Int) (n : Nd) (w : World) (hx : xs.length < 24) (hn : isNode n k = true) (hk : k < m) (hm : ps.length = m) (hqg : q ≠ g) (hqL : q < L) (hgL : g < L) (hL : L ≤ w.heap.size)
    (hq : MB w q g m cc v false) (hi : IB w g 3 ps) (ho : OK Nd.enc 4 62 w L w.heap.size v xs) :
    Calls Try.prog 73 #[.pointer (some ⟨q, 0, none⟩), .int .i64 k, .agg #[.string n.op, .int .i64 n.a, .int .i64 n.b, .int .i64 n.v]] w fun e w' => e = .returned (.tuple #[]) ∧ ∃ v', MB w' q g m cc v' false ∧ IB w' g 3 (ps.set k xs.length) ∧ OK Nd.enc 4 62 w' L w'.heap.size v' (xs ++ [moved n ps]) ∧ w.heap.size ≤ w'.heap.size ∧ (∀ C, C ≤ q → C ≤ g → Below C w w') ∧ ∀ j, j < L → j ≠ q → j ≠ g → w'.heap[j]? = w.heap[j]? := by
  obtain ⟨AV, cv, rfl, _⟩ := OK.form Nd.hk ho
  obtain ⟨h0, h1, h2⟩ := hq.cells
  refine (move_any q g L m k cc AV cv xs ps n w hx hn hk hm hqg hqL hgL hL h0 h1 h2 (hq.fz 0) hi ho).mono ?_
  rintro e w' ⟨rfl, v', w1, rfl, hb, ho'⟩
  refine ⟨rfl, v', ?_, ?_, ?_, ?_, ?_, ?_⟩
  · exact ((hq.block (hb.block q hqL)).set0 v').other k _ (Ne.symm hqg)
  · have : IB w1 g 3 ps := (hb.block g hgL).trans hi
    have h9 : IB (w1.setCell ⟨q, 0, none⟩ v') g 3 ps := (Below.heap_setCell w1 ⟨q, 0, none⟩ v' g (by simpa using Ne.symm hqg)).trans this
    exact h9.set k _
  · have c1 : Chg 0 L w1 ((w1.setCell ⟨q, 0, none⟩ v').setCell ⟨g, k, none⟩ (.int .i64 xs.length)) := ((Chg.refl 0 L w1).setCell (p := ⟨q, 0, none⟩) ⟨Nat.zero_le _, hqL⟩ v').setCell (p := ⟨g, k, none⟩) ⟨Nat.zero_le _, hgL⟩ _
    have := ho'.chg c1 (Or.inr (Nat.le_refl _))
    simpa [World.setCell] using this
  · have := hb.size; simpa [World.setCell] using this
  · intro C h1 h2
    exact ((hb.mono (by omega)).setCell (p := ⟨q, 0, none⟩) h1 _).setCell (p := ⟨g, k, none⟩) h2 _
  · intro j hj hjq hjg
    rw [Below.heap_setCell _ ⟨g, k, none⟩ _ j (by simpa using hjg), Below.heap_setCell _ ⟨q, 0, none⟩ _ j (by simpa using hjq)]
    exact hb.block j hj

set_option maxHeartbeats 8000000 in
theorem subExpr_any (L B : Nat) (A : Option Addr) (c root : Nat) (es : List Nd) (w : World) (hl : es.length ≤ 24) (hc : es.length ≤ c) (hr : root < es.length) (hes : NS w L B A es) (hB : B ≤ w.heap.size) (hok : okFrom es 0 = true) :
    Calls Try.prog 59 #[.slice A es.length c, .int .i64 root] w fun e w' => ∃ A' c', e = .returned (.slice A' (keepL es root).length c') ∧ OK Nd.enc 4 62 w' w.heap.size w'.heap.size (.slice A' (keepL es root).length c') (keepL es root) ∧ Below w.heap.size w w' := by
  obtain ⟨i0, hi0, hi1, hi2, hi3⟩ := info_parts Try.infoNode
  have hJ0 := Lib.hid hi0
  have hJ1 := Lib.hid hi1
  have hJ2 := Lib.hid hi2
  have hJ3 := Lib.hid hi3
  clear hi0 hi1 hi2 hi3
  have hmk := run_make_bools (root + 1) (by omega)
  have hmi := run_make_ints (root + 1) (by omega)
  have hcr : ((root + 1 : Nat) : Int) = (root : Int) + 1 := by omega
  rw [hcr] at hmk hmi
  have hE := Lib.hid fun (W : World) (hW : Below w.heap.size w W) => hes.below hW hB
  have hOk := Lib.hid hok
  have hm1 := boolCells_set (List.replicate (root + 1) false) root true
  have hB1 : Hid (BB (w.alloc (.cells (boolCells ((List.replicate (root + 1) false).set root true)) 4)) w.heap.size ((List.replicate (root + 1) false).set root true)) := by unfold Hid; exact heap_alloc_new w _
  rw [← hm1, ← needTo_start es root] at hB1
  have b1 := Lib.hid ((Below.refl w.heap.size w).alloc (Nat.le_refl _) (.cells ((boolCells (List.replicate (root + 1) false)).setIfInBounds root (.bool true)) 4))
  have hm2 : root < (boolCells (List.replicate (root + 1) false)).size := by simp [boolCells]
  have r0 : (0 : Int) ≤ (root : Int) := by omega
  have r1 : (root : Int) < (root : Int) + 1 := by omega
  have r2 : root < root + 1 := by omega
  have r3 : (root : Int) ≤ 23 := by omega
  clear hes hB hok hcr hm1
  go_enter Try.func59, Try.ntmps59
  go_wp2
  generalize w.alloc (.cells ((boolCells (List.replicate (root + 1) false)).setIfInBounds root (.bool true)) 4) = W1 at *
  clear hm2
  go_loopw [6] (fun i wr => ∃ q : Nat, q ≤ root + 1 ∧ i = .int .i64 ((q : Int) - 1) ∧ BB wr w.heap.size (needTo es root q) ∧ Below w.heap.size w wr) (fun i _ => (intOf i + 1).toNat)
  case atStart => exact ⟨root + 1, Nat.le_refl _, by go_num, hB1.out, b1.out⟩
  case round =>
    obtain ⟨q, hq, rfl, hbb, hbel⟩ := hrel
    have hBQ := Lib.hid hbb
    have hBL := Lib.hid hbel
    clear hbb hbel
    cases q with
    | succ p =>
      have hpe : p < es.length := by omega
      have hpi : ((p + 1 : Nat) : Int) - 1 = (p : Int) := by omega
      rw [hpi]
      have p0 : (0 : Int) ≤ (p : Int) := by omega
      have p1 : (p : Int) < (es.length : Int) := by omega
      obtain ⟨b, o, hA, ⟨_, hbB⟩, hcc⟩ := (hE.out wr hBL.out) (by omega)
      obtain ⟨c1, c2, c3, c4⟩ := hcc p hpe
      subst hA
      have hst := Lib.hid (needTo_step (es := es) (root := root) (m := p) (by omega) hr)
      have hnd := ok_get hOk.out hpe
      have hlen := needTo_len es root (p + 1)
      generalize hgn : needTo es root p = nb' at *
      have HN := Lib.hid hgn
      clear hgn hcc
      generalize needTo es root (p + 1) = nb at *
      generalize es[p] = nd at *
      obtain ⟨s, a, bb, v⟩ := nd
      have hpb := parts_bd hnd
      have hcp := hBQ.out.cell p (by rw [hlen]; omega)
      cases hy : nb.getD p false
      · have hnf : Hid (nb' = nb) := by
          unfold Hid; rw [hst.out]; unfold nfull nstep; rw [if_neg (by rw [hy]; decide)]
        rw [hy] at hcp
        clear hst hy hlen hpb hnd
        go_wp2
        go_roundw
        case rel =>
          refine ⟨p, by omega, rfl, ?_, hBL.out⟩
          have := hBQ.out; rw [← hnf.out, ← HN.out] at this; exact this
        case measure => simp [intOf]
      · rw [hy] at hcp
        have hss := Lib.hid fun j (hj : j < (parts ⟨s, a, bb, v⟩).length) => nstep_succ (b := nb) hj hpb
        have hnl := Lib.hid fun j => nstep_len ⟨s, a, bb, v⟩ p nb j
        have hz := nstep_zero ⟨s, a, bb, v⟩ p nb
        have hpl : (parts ⟨s, a, bb, v⟩).length ≤ 2 := parts_le _
        have hnf : Hid (nb' = nstep ⟨s, a, bb, v⟩ p nb (parts ⟨s, a, bb, v⟩).length) := hst.out
        have hyo : ∀ j (hj : j < (parts ⟨s, a, bb, v⟩).length), (nstep ⟨s, a, bb, v⟩ p nb j).set ((parts ⟨s, a, bb, v⟩)[j]).toNat true = nstep ⟨s, a, bb, v⟩ p nb (j + 1) := by
          intro j hj; have := hss.out j hj; rw [hy, Bool.or_true] at this; exact this
        have hYO := Lib.hid hyo
        clear hst hy hss hyo hnd
        go_wp2_with (fail)
        refine (operandsOf_any _ _ _ _ _).mono ?_
        rintro e w2 ⟨A2, cc, rfl, hIS, hb2⟩
        have hI2 := Lib.hid hIS
        have hbel2 := Lib.hid (hBL.out.trans (hb2.mono hBL.out.size))
        have hB2 := Lib.hid (hBQ.out.next hb2)
        have hglt := hBQ.out.lt
        clear hIS hb2 c1 c2 c3 c4 hcp
        generalize parts ⟨s, a, bb, v⟩ = ps at *
        generalize nstep ⟨s, a, bb, v⟩ p nb = ns at *
        go_wp2_with (fail)
        go_loopw [33] (fun i wi => ∃ j : Nat, j ≤ ps.length ∧ i = .int .i64 j ∧ BB wi w.heap.size (ns j) ∧ Below w.heap.size w wi ∧ IS wi (w.heap.size + 1) wi.heap.size A2 ps) (fun i _ => ps.length - (intOf i).toNat)
        case atStart =>
          refine ⟨0, Nat.zero_le _, rfl, ?_, hbel2.out, hI2.out.more ?_ (Nat.le_refl _)⟩
          · rw [hz]; exact hB2.out
          · omega
        case round =>
          obtain ⟨j, hj, rfl, hib, hbel3, his⟩ := hrel
          have hIB3 := Lib.hid hib
          have hIS3 := Lib.hid his
          have hBL3 := Lib.hid hbel3
          clear hib his hbel3
          by_cases hjt : j < ps.length
          · obtain ⟨b2, o2, rfl, hbb, hc⟩ := hIS3.out (by omega)
            have hcj := hc j hjt
            obtain ⟨hq0, hq1⟩ := hpb _ (List.getElem_mem hjt)
            have hSj := Lib.hid (hYO.out j hjt)
            obtain ⟨q, hq⟩ := Int.eq_ofNat_of_zero_le hq0
            have hql : q < root + 1 := by omega
            rw [hq] at hcj
            have hSj' : Hid ((ns j).set q true = ns (j + 1)) := by
              have := hSj.out; rw [hq, Int.toNat_natCast] at this; exact this
            clear hc hq hq0 hq1 hSj
            have hcu := hIB3.out.cell q (by rw [hnl.out, hlen]; exact hql)
            have hfu := hIB3.out.frozen q
            clear hpb
            generalize ns j = us at *
            generalize us.getD q false = x at *
            have hK := Lib.hid fun (z : Bool) => hIS3.out.keep (w' := wr.setCell ⟨w.heap.size, q, none⟩ (.bool z)) fun p hp _ => World.cell?_setCell_other wr _ p _ (fun e => by subst e; have h9 : w.heap.size + 1 ≤ w.heap.size := hp; omega)
            go_wp2
            go_roundw
            case rel =>
              refine ⟨j + 1, by omega, by go_num, ?_, hBL3.out.setCell (Nat.le_refl _) _, ?_⟩
              · have := hIB3.out.set q true; rw [← hSj'.out]; simpa using this
              · exact (hK.out true).more (Nat.le_refl _) (by simp [World.setCell])
            case measure => simp [intOf]; omega
          · obtain rfl : j = ps.length := by omega
            go_wp2
            go_roundw
            case rel =>
              refine ⟨p, by omega, rfl, ?_, hBL3.out⟩
              have := hIB3.out; rw [← hnf.out, ← HN.out] at this; exact this
            case measure => simp [intOf]
    | zero =>
      rw [show (((0 : Nat) : Int) - 1) = -1 from rfl]
      clear hmk hB1 b1
      have hsz := hBL.out.size
      have bP := Lib.hid (hBL.out.alloc hsz (.cells (intCells (zeros (root + 1))) 3))
      have nbP := Lib.hid (hBQ.out.next ((Below.refl wr.heap.size wr).alloc (Nat.le_refl _) (.cells (intCells (zeros (root + 1))) 3)))
      have iP : Hid (IB (wr.alloc (.cells (intCells (zeros (root + 1))) 3)) wr.heap.size 3 (zeros (root + 1))) := by unfold Hid; exact heap_alloc_new wr _
      have hnl := needTo_len es root 0
      have hKL : keepL es root = ke es (needTo es root 0) (root + 1) (root + 1) := rfl
      have hPl := Lib.hid (pl_len es (needTo es root 0) (root + 1))
      have hKe := Lib.hid (ke_len es (needTo es root 0) (root + 1))
      have hlt0 := hBQ.out.lt
      have hKy := Lib.hid fun k (hk : k < es.length) => kp_yes (m := root + 1) (nb := needTo es root 0) hk
      have hKn := Lib.hid fun k => kp_no (es := es) (m := root + 1) (nb := needTo es root 0) (k := k)
      have hp0 : pl es (needTo es root 0) (root + 1) 0 = zeros (root + 1) := rfl
      have hk0 : ke es (needTo es root 0) (root + 1) 0 = [] := rfl
      have hzP : (wr.alloc (.cells (intCells (zeros (root + 1))) 3)).heap.size = wr.heap.size + 1 := by simp
      clear hBQ
      generalize needTo es root 0 = nb at *
      generalize pl es nb (root + 1) = P at *
      generalize ke es nb (root + 1) = KE at *
      obtain ⟨WQ, hWQ⟩ : ∃ WQ, WQ = (wr.alloc (.cells (intCells (zeros (root + 1))) 3)).alloc (.cells #[.slice none 0 0, .bool false, .slice (some ⟨wr.heap.size, 0, none⟩) (root + 1) (root + 1)] 84) := ⟨_, rfl⟩
      have aQ := (Below.refl (wr.alloc (.cells (intCells (zeros (root + 1))) 3)).heap.size (wr.alloc (.cells (intCells (zeros (root + 1))) 3))).alloc (Nat.le_refl _) (.cells #[.slice none 0 0, .bool false, .slice (some ⟨wr.heap.size, 0, none⟩) (root + 1) (root + 1)] 84)
      rw [← hWQ] at aQ
      have bQ := Lib.hid (bP.out.trans (aQ.mono bP.out.size))
      have nbQ := Lib.hid (nbP.out.next aQ)
      have iQ := Lib.hid (iP.out.below aQ iP.out.lt)
      have mQ : Hid (MB WQ (wr.heap.size + 1) wr.heap.size (root + 1) (root + 1) (.slice none 0 0) false) := by
        unfold Hid; rw [← hzP, hWQ]; exact heap_alloc_new _ _
      have zQ : WQ.heap.size = wr.heap.size + 2 := by rw [hWQ]; simp
      have hWQ' := Lib.hid hWQ
      clear hWQ aQ bP nbP iP hzP
      obtain ⟨b, o, hA, ⟨_, hbB⟩, hcc⟩ := (hE.out wr hBL.out) (by omega)
      subst hA
      clear hcc hbB
      go_wp2_with (fail)
      rw [← hWQ'.out]
      clear hWQ' hmi
      generalize wr.heap.size = g at *
      go_loopw [50] (fun i wi => ∃ (k : Nat) (v : Value), k ≤ root + 1 ∧ i = .int .i64 k ∧ IB wi g 3 (P k) ∧ BB wi w.heap.size nb ∧ MB wi (g + 1) g (root + 1) (root + 1) v false ∧ OK Nd.enc 4 62 wi (g + 2) wi.heap.size v (KE k) ∧ Below w.heap.size w wi) (fun i _ => root + 1 - (intOf i).toNat)
      case atStart =>
        refine ⟨0, .slice none 0 0, Nat.zero_le _, rfl, ?_, nbQ.out, mQ.out, ?_, bQ.out⟩
        · rw [hp0]; exact iQ.out
        · rw [hk0]; exact OK.nil _ _ _ _
      case round =>
        obtain ⟨k, v, hk, rfl, hi, hb, hm, ho, hbel⟩ := hrel
        have hI := Lib.hid hi
        have hBn := Lib.hid hb
        have hM := Lib.hid hm
        have hO := Lib.hid ho
        have hBe := Lib.hid hbel
        clear hi hb hm ho hbel nbQ mQ iQ bQ
        by_cases hlt : k < root + 1
        · obtain ⟨b', o', hA, ⟨_, hbB⟩, hcc⟩ := (hE.out wr hBe.out) (by omega)
          obtain ⟨c1, c2, c3, c4⟩ := hcc k (by omega)
          injection hA with hA
          injection hA with hA1 hA2
          subst hA1; subst hA2
          have hcell := hBn.out.cell k (by omega)
          have k0 : (0 : Int) ≤ (k : Int) := by omega
          have k1 : (k : Int) < (root : Int) + 1 := by omega
          have hnd := ok_get hOk.out (show k < es.length by omega)
          have hX := xn_new wr es[k]
          have hXb := (Below.refl wr.heap.size wr).alloc (Nat.le_refl _) (.cells #[.string es[k].op, .int .i64 es[k].a, .int .i64 es[k].b, .int .i64 es[k].v] 62)
          have hXz : (wr.alloc (.cells #[.string es[k].op, .int .i64 es[k].a, .int .i64 es[k].b, .int .i64 es[k].v] 62)).heap.size = wr.heap.size + 1 := by simp
          have hcell2 := (hXb.cell (p := ⟨w.heap.size, k, none⟩) hBn.out.lt).trans hcell
          obtain ⟨X, hXe⟩ : ∃ X, X = wr.alloc (.cells #[.string es[k].op, .int .i64 es[k].a, .int .i64 es[k].b, .int .i64 es[k].v] 62) := ⟨_, rfl⟩
          rw [← hXe] at hX hXb hXz hcell2
          have xI := Lib.hid (hI.out.below hXb hI.out.lt)
          have xB := Lib.hid (hBn.out.next hXb)
          have xM := Lib.hid (hM.out.next hXb)
          have xO := Lib.hid ((hO.out.below hXb (Nat.le_refl _)).more hXb.size)
          have xE := Lib.hid (hBe.out.trans (hXb.mono hBe.out.size))
          have hgL : g + 2 ≤ wr.heap.size := by have := hM.out.lt; omega
          have HX := Lib.hid hXe
          have hkl := hKe.out k
          have hPk := hPl.out k
          cases hx : nb.getD k false
          · rw [hx] at hcell hcell2
            obtain ⟨e1, e2⟩ := hKn.out k hx
            have E1 := Lib.hid e1
            have E2 := Lib.hid e2
            rw [hXe] at hcell2
            clear e1 e2 hx hcc hX hXb hXz hXe
            generalize es[k] = nd at *
            go_wp2
            go_roundw
            case rel =>
              rw [← HX.out]
              refine ⟨k + 1, v, by omega, by go_num, ?_, xB.out, xM.out, ?_, xE.out⟩
              · rw [E1.out]; exact xI.out
              · rw [E2.out]; exact xO.out
            case measure => simp [intOf]; omega
          · rw [hx] at hcell hcell2
            obtain ⟨e1, e2⟩ := hKy.out k (by omega) hx
            have E1 := Lib.hid e1
            have E2 := Lib.hid e2
            have hMv := Lib.hid (move_box (g + 1) g (g + 2) (root + 1) k (root + 1) v (KE k) (P k) es[k] X (by omega) hnd (by omega) hPk (by omega) (by omega) (by omega) (by omega) xM.out xI.out xO.out)
            rw [hXe] at hcell2
            obtain ⟨m0, m1, m2, m3⟩ := hX.cells
            rw [hXe] at m0 m1 m2 m3
            clear e1 e2 hx hcc hX hXe
            generalize es[k] = nd at *
            go_wp2_with (fail)
            rw [← HX.out]
            refine hMv.out.mono ?_
            rintro e w3 ⟨rfl, v', hm', hi', ho', hz', hb', hj'⟩
            have hz9 : w.heap.size ≠ g + 1 := by omega
            have b3 := Lib.hid (xE.out.trans (hb' w.heap.size (by omega) (by omega)))
            have n3 : Hid (BB w3 w.heap.size nb) := by unfold Hid; exact (hj' w.heap.size (by omega) (by omega) (by omega)).trans xB.out
            have M3 := Lib.hid hm'
            have I3 := Lib.hid hi'
            have O3 := Lib.hid ho'
            clear hm' hi' ho' hb' hj' m0 m1 m2 m3 c1 c2 c3 c4 hcell hcell2
            go_wp2
            go_roundw
            case rel =>
              refine ⟨k + 1, v', by omega, by go_num, ?_, n3.out, M3.out, ?_, b3.out⟩
              · rw [E1.out]; exact I3.out
              · rw [E2.out]; exact O3.out
            case measure => simp [intOf]; omega
        · obtain rfl : k = root + 1 := by omega
          obtain ⟨AV, cv, rfl, _⟩ := OK.form Nd.hk hO.out
          obtain ⟨m0, _, _⟩ := hM.out.cells
          go_wp2
          go_ret
          rw [hKL]
          exact ⟨_, _, rfl, hO.out.lower (by omega), hBe.out⟩
end Go.Proofs.Ytieljgfocgdngaa

/- A builder inside a bigger box: its state, and what one world changes of another. -/
namespace Go.Proofs.Ytieljgfocgdngaa
open Go.RowKit
set_option linter.unusedVariables false
set_option maxRecDepth 100000

/-- What one world changes of another: the block q and the row r alone. -/
structure Fr (q : Nat) (r : Option Nat) (w w' : World) : Prop where
  os : w'.os = w.os
  tape : w'.tape = w.tape
  output : w'.output = w.output
  size : w.heap.size ≤ w'.heap.size
  block : ∀ j, j < w.heap.size → j ≠ q → r ≠ some j → w'.heap[j]? = w.heap[j]?
theorem Fr.below {q B : Nat} {r : Option Nat} {w w' : World} (h : Fr q r w w') (hB : B ≤ w.heap.size) (hq : B ≤ q) (hr : ∀ j, r = some j → B ≤ j) : Below B w w' :=
  ⟨h.os, h.tape, h.output, h.size, fun j hj => h.block j (by omega) (by omega) (fun e => by have := hr j e; omega)⟩
theorem Fr.ofBelow {q : Nat} {r : Option Nat} {w w' : World} (h : Below w.heap.size w w') : Fr q r w w' := ⟨h.os, h.tape, h.output, h.size, fun j hj _ _ => h.block j hj⟩
theorem Fr.refl (q : Nat) (r : Option Nat) (w : World) : Fr q r w w := ⟨rfl, rfl, rfl, Nat.le_refl _, fun _ _ _ _ => rfl⟩
theorem Fr.trans {q : Nat} {r r' : Option Nat} {a b c : World} (h : Fr q r a b) (k : Fr q r' b c) (hr : ∀ j, r' = some j → r = some j ∨ a.heap.size ≤ j) : Fr q r a c :=
  ⟨k.os.trans h.os, k.tape.trans h.tape, k.output.trans h.output, Nat.le_trans h.size k.size, fun j hj h1 h2 =>
    (k.block j (Nat.lt_of_lt_of_le hj h.size) h1 (fun e => by rcases hr j e with e' | e'; exact h2 e'; omega)).trans (h.block j hj h1 h2)⟩
theorem Fr.set {q : Nat} {r : Option Nat} {a w : World} (h : Fr q r a w) (i : Nat) (u : Value) : Fr q r a (w.setCell ⟨q, i, none⟩ u) :=
  ⟨h.os, h.tape, h.output, by simpa [World.setCell] using h.size, fun j hj h1 h2 => (Below.heap_setCell w ⟨q, i, none⟩ u j (by simpa using h1)).trans (h.block j hj h1 h2)⟩
theorem Fr.far {q : Nat} {r : Option Nat} {a w : World} (h : Fr q r a w) {p : Addr} (hp : a.heap.size ≤ p.block) (u : Value) : Fr q r a (w.setCell p u) :=
  ⟨h.os, h.tape, h.output, by simpa [World.setCell] using h.size, fun j hj h1 h2 => (Below.heap_setCell w p u j (by omega)).trans (h.block j hj h1 h2)⟩
theorem Fr.drew {q : Nat} {r : Option Nat} {a w : World} (h : Fr q r a w) : Fr q r a w.drew := ⟨h.os, h.tape, h.output, h.size, h.block⟩
theorem Fr.ofGrown {q : Nat} {r : Option Nat} {w w' : World} (h : w.grownBy w' r) : Fr q r w w' := ⟨h.os, h.tape, h.output, h.size, fun j hj _ h2 => h.block j hj (fun e => h2 e.symm)⟩

/-- The state of a builder: its nodes lie in v, its flag is told, the rest of its box stays. -/
def GS (t : TypeId) (rest : List Value) (q L : Nat) (xs : List Nd) (fl : Bool) (v : Value) (w : World) : Prop :=
  w.heap[q]? = some (.cells (v :: .bool fl :: rest).toArray t (0, 0)) ∧ w.ownsRow L 62 4 v xs.length (xs.flatMap Nd.enc) ∧ v.ownBlock ≠ some q
theorem GS.lt {t : TypeId} {rest : List Value} {q L : Nat} {xs : List Nd} {fl : Bool} {v : Value} {w : World} (h : GS t rest q L xs fl v w) : q < w.heap.size := by
  rcases Nat.lt_or_ge q w.heap.size with hlt | hge
  · exact hlt
  · have := h.1; rw [Array.getElem?_eq_none hge] at this; cases this
theorem GS.own {t : TypeId} {rest : List Value} {q L : Nat} {xs : List Nd} {fl : Bool} {v : Value} {w : World} (h : GS t rest q L xs fl v w) : ∀ j, v.ownBlock = some j → L ≤ j ∧ j < w.heap.size := fun j hj => h.2.1.lt j hj
theorem GS.keep {t : TypeId} {rest : List Value} {q L : Nat} {xs : List Nd} {fl : Bool} {v : Value} {w w' : World} (h : GS t rest q L xs fl v w) (hq : w'.heap[q]? = w.heap[q]?) (hr : ∀ j, v.ownBlock = some j → w'.heap[j]? = w.heap[j]?) : GS t rest q L xs fl v w' := by
  refine ⟨hq.trans h.1, ⟨h.2.1.1, ?_⟩, h.2.2⟩
  rcases h.2.1.2 with hn | ⟨g, cap, cur, rfl, hg, hh, hrest⟩
  · exact .inl hn
  · exact .inr ⟨g, cap, cur, rfl, hg, (hr g rfl).trans hh, hrest⟩
theorem GS.next {t : TypeId} {rest : List Value} {q L : Nat} {xs : List Nd} {fl : Bool} {v : Value} {w w' : World} (h : GS t rest q L xs fl v w) (hb : Below w.heap.size w w') : GS t rest q L xs fl v w' :=
  h.keep (hb.block q h.lt) (fun j hj => hb.block j (h.own j hj).2)
theorem GS.other {t : TypeId} {rest : List Value} {q L : Nat} {xs : List Nd} {fl : Bool} {v : Value} {w : World} (h : GS t rest q L xs fl v w) {p : Addr} (h1 : p.block ≠ q) (h2 : v.ownBlock ≠ some p.block) (u : Value) : GS t rest q L xs fl v (w.setCell p u) :=
  h.keep (Below.heap_setCell w p u q (Ne.symm h1)) (fun j hj => Below.heap_setCell w p u j (fun e => h2 (by rw [hj, e])))
theorem GS.form {t : TypeId} {rest : List Value} {q L : Nat} {xs : List Nd} {fl : Bool} {v : Value} {w : World} (h : GS t rest q L xs fl v w) : ∃ A c, v = .slice A xs.length c := by
  rcases h.2.1.2 with ⟨rfl, h0⟩ | ⟨g, cap, cur, rfl, _⟩
  · rw [h0]; exact ⟨_, _, rfl⟩
  · exact ⟨_, _, rfl⟩
theorem GS.ok {t : TypeId} {rest : List Value} {q L : Nat} {xs : List Nd} {fl : Bool} {v : Value} {w : World} (h : GS t rest q L xs fl v w) : OK Nd.enc 4 62 w L w.heap.size v xs := ⟨h.2.1, fun j hj => (h.own j hj).2⟩
theorem GS.c0 {t : TypeId} {rest : List Value} {q L : Nat} {xs : List Nd} {fl : Bool} {v : Value} {w : World} (h : GS t rest q L xs fl v w) : w.cell? ⟨q, 0, none⟩ = some v := by
  have := h.1; simp [World.cell?, this]
theorem GS.c1 {t : TypeId} {rest : List Value} {q L : Nat} {xs : List Nd} {fl : Bool} {v : Value} {w : World} (h : GS t rest q L xs fl v w) : w.cell? ⟨q, 1, none⟩ = some (.bool fl) := by
  have := h.1; simp [World.cell?, this]
theorem GS.c2 {t : TypeId} {rest : List Value} {q L : Nat} {xs : List Nd} {fl : Bool} {v u : Value} {w : World} (h : GS t (u :: rest) q L xs fl v w) : w.cell? ⟨q, 2, none⟩ = some u := by
  have := h.1; simp [World.cell?, this]
theorem GS.fz {t : TypeId} {rest : List Value} {q L : Nat} {xs : List Nd} {fl : Bool} {v : Value} {w : World} (h : GS t rest q L xs fl v w) (i : Nat) : w.frozen? ⟨q, i, none⟩ = false := by
  have := h.1; simp [World.frozen?, this]
theorem GS.flag {t : TypeId} {rest : List Value} {q L : Nat} {xs : List Nd} {fl : Bool} {v : Value} {w : World} (h : GS t rest q L xs fl v w) (x : Bool) : GS t rest q L xs x v (w.setCell ⟨q, 1, none⟩ (.bool x)) := by
  refine ⟨?_, ?_, h.2.2⟩
  · have := h.1; simp [World.setCell, Array.getElem?_modify, this]
  · refine ⟨h.2.1.1, ?_⟩
    rcases h.2.1.2 with hn | ⟨g, cap, cur, rfl, hg, hh, hrest⟩
    · exact .inl hn
    · exact .inr ⟨g, cap, cur, rfl, hg, (Below.heap_setCell w ⟨q, 1, none⟩ _ g (fun e => h.2.2 (by have e' : g = q := e; rw [e']; rfl))).trans hh, hrest⟩
theorem GS.nil (t : TypeId) (rest : List Value) (fl : Bool) (L : Nat) (w : World) : GS t rest w.heap.size L [] fl (.slice none 0 0) (w.alloc (.cells (Value.slice none 0 0 :: .bool fl :: rest).toArray t)) :=
  ⟨heap_alloc_new w _, World.ownsRow_nil _ _ _ _, fun e => by simp [Value.ownBlock] at e⟩

/-- What a call leaves of a builder's state. -/
def GP (t : TypeId) (rest : List Value) (q L : Nat) (v : Value) (w : World) (s : List Nd × Bool) (w' : World) : Prop :=
  ∃ v', GS t rest q L s.1 s.2 v' w' ∧ Fr q v.ownBlock w w' ∧ ∀ j, v'.ownBlock = some j → v.ownBlock = some j ∨ w.heap.size ≤ j
theorem GP.refl {t : TypeId} {rest : List Value} {q L : Nat} {xs : List Nd} {fl : Bool} {v : Value} {w : World} (h : GS t rest q L xs fl v w) : GP t rest q L v w (xs, fl) w := ⟨v, h, Fr.refl _ _ _, fun j hj => .inl hj⟩
theorem GP.trans {t : TypeId} {rest : List Value} {q L : Nat} {v v1 : Value} {w w1 w2 : World} {s : List Nd × Bool} (h1 : Fr q v.ownBlock w w1) (h2 : ∀ j, v1.ownBlock = some j → v.ownBlock = some j ∨ w.heap.size ≤ j) (h : GP t rest q L v1 w1 s w2) : GP t rest q L v w s w2 := by
  obtain ⟨v2, g, f, o⟩ := h
  refine ⟨v2, g, h1.trans f h2, fun j hj => ?_⟩
  rcases o j hj with e | e
  · exact h2 j e
  · exact .inr (Nat.le_trans h1.size e)

/-! ### One node put -/
def bp (s : List Nd × Bool) (y : Nd) : (List Nd × Bool) × Int := if 24 ≤ s.1.length then ((s.1, true), 0) else if s.2 = true then (s, 0) else ((s.1 ++ [y], false), (s.1.length : Int))

theorem put_facts2 {q : Nat} {w1 w2 : World} {o : Obj} {AV : Option Addr} {cv n : Nat} {row : Option Nat} (hq : q < w1.heap.size) (hr : row ≠ some q) (k0 : w1.cell? ⟨q, 0, none⟩ = some (.slice AV n cv)) (hf : w1.frozen? ⟨q, 0, none⟩ = false) (hg : ((w1.alloc o).drew).grownBy w2 row) :
    w2.cell? ⟨q, 0, none⟩ = some (.slice AV n cv) ∧ w2.frozen? ⟨q, 0, none⟩ = false ∧ (∀ x, (w2.setCell ⟨q, 0, none⟩ x).cell? ⟨q, 0, none⟩ = some x) ∧ w2.heap[q]? = w1.heap[q]? ∧ Fr q row w1 w2 := by
  have hz : w1.heap.size ≤ (w1.alloc o).drew.heap.size := ((Below.refl w1.heap.size w1).alloc (Nat.le_refl _) o).drew.size
  have hb : w2.heap[q]? = w1.heap[q]? := (hg.block q (Nat.lt_of_lt_of_le hq hz) (Ne.symm hr)).trans (((Below.refl w1.heap.size w1).alloc (Nat.le_refl _) o).drew.block q hq)
  have hc : w2.cell? ⟨q, 0, none⟩ = some (.slice AV n cv) := (World.cell?_of_block hb).trans k0
  refine ⟨hc, (World.frozen?_of_block hb).trans hf, ?_, hb, ?_⟩
  · intro x
    exact World.cell?_setCell_same' w2 _ x (by rw [hc]; rfl)
  · exact Fr.trans (r' := row) (Fr.ofBelow (((Below.refl w1.heap.size w1).alloc (Nat.le_refl _) o).drew)) (Fr.ofGrown hg) (fun j hj => .inl hj)

set_option maxHeartbeats 4000000 in
theorem put_new (t : TypeId) (rest : List Value) (q L : Nat) (xs : List Nd) (v : Value) (y : Nd) (w : World) (hx : xs.length < 24) (hL : L ≤ w.heap.size) (hs : GS t rest q L xs false v w) :
    Calls Try.prog 102 #[.pointer (some ⟨q, 0, none⟩), .agg #[.string y.op, .int .i64 y.a, .int .i64 y.b, .int .i64 y.v]] w fun e w' => e = .returned (.int .i64 xs.length) ∧ GP t rest q L v w (xs ++ [y], false) w' := by
  obtain ⟨i0, hi0, hi1, hi2, hi3⟩ := info_parts Try.infoNode
  have hJ0 := Lib.hid hi0
  have hJ1 := Lib.hid hi1
  have hJ2 := Lib.hid hi2
  have hJ3 := Lib.hid hi3
  clear hi0 hi1 hi2 hi3
  obtain ⟨AV, cv, rfl⟩ := hs.form
  have hq0 : q < w.heap.size := hs.lt
  have hal := fun o => (Below.refl w.heap.size w).alloc (Nat.le_refl _) o
  have g0 := fun o => ((hal o).cell (p := ⟨q, 0, none⟩) hq0).trans hs.c0
  have g1 := fun o => ((hal o).cell (p := ⟨q, 1, none⟩) hq0).trans hs.c1
  have x24 : (xs.length : Int) < 24 := by omega
  have hf := hs.fz 0
  have HS := Lib.hid hs
  clear hs
  go_enter Try.func102, Try.ntmps102
  go_wp2_with (fail)
  obtain ⟨w1, hw1⟩ : ∃ w1, w1 = w.alloc (.cells #[.string y.op, .int .i64 y.a, .int .i64 y.b, .int .i64 y.v] 62) := ⟨_, rfl⟩
  have X1 : XN w1 w.heap.size y := by rw [hw1]; exact xn_new _ y
  have B1 : Hid (Below w.heap.size w w1) := by unfold Hid; rw [hw1]; exact hal _
  have k0 : w1.cell? ⟨q, 0, none⟩ = some (.slice AV xs.length cv) := by rw [hw1]; exact g0 _
  have S1 : Hid (GS t rest q L xs false (.slice AV xs.length cv) w1) := HS.out.next B1.out
  have Z1 : w1.heap.size = w.heap.size + 1 := by rw [hw1]; simp
  obtain ⟨m0, m1, m2, m3⟩ := X1.cells
  have O2 := fun o => Lib.hid (show ((w1.alloc o).drew).ownsRow L 62 4 (.slice AV xs.length cv) xs.length (xs.flatMap Nd.enc) from (S1.out.next (((Below.refl w1.heap.size w1).alloc (Nat.le_refl _) o).drew)).2.1)
  have HF1 : Hid (w1.frozen? ⟨q, 0, none⟩ = false) := S1.out.fz 0
  have hq1 : Hid (q < w1.heap.size) := S1.out.lt
  rw [← hw1]
  have HW1 := Lib.hid hw1
  have hL1 : L ≤ w1.heap.size := by omega
  clear hw1 hal g0 g1 X1
  go_region_law (first | (refine step_append_lies _ rfl _ _ 24 rfl L 62 i0 _ 4 40 Try.underlying24 hJ0.out hJ1.out hJ2.out hJ3.out rfl (by decide) _ _ _ (by rfl) (O2 _).out ⟨w.heap.size + 1, 0, none⟩ 1 1 (Nd.enc y) (by rfl) rfl (four_new y Z1) (four_one _) (by omega) (by unfold maxLen; omega) (by omega) (by simp; omega) (w1.heap.size + 1) (by simp) ?_; intro gg cap w2 hown1 hgr1 hat1 _; obtain ⟨j0, j1, j2, j3, j4⟩ := put_facts2 hq1.out HS.out.2.2 k0 HF1.out hgr1))
  all_goals
    have h1' := Lib.hid hown1
    have J3 := Lib.hid j3
    have J4 := Lib.hid j4
    have HA := Lib.hid hat1
    clear hown1 hgr1 j4 hat1 j3
    go_wp2
    go_ret
    have hgq : gg ≠ q := by
      intro e; subst e
      rcases HA.out with e | e
      · exact HS.out.2.2 e
      · have := hq1.out; omega
    refine ⟨rfl, .slice (some ⟨gg, 0, none⟩) (xs.length + 1) cap, ⟨?_, ?_, ?_⟩, ((Fr.ofBelow B1.out).trans J4.out (fun j hj => .inl hj)).set 0 _, ?_⟩
    · have h7 := J3.out.trans S1.out.1
      simp [World.setCell, Array.getElem?_modify, h7]
    · have h8 := h1'.out
      rw [nflat_snoc, List.length_append]
      refine ⟨h8.1, ?_⟩
      rcases h8.2 with hn | ⟨g, cp, cur, e, hg, hh, hrest⟩
      · exact .inl hn
      · refine .inr ⟨g, cp, cur, e, hg, ?_, hrest⟩
        have e' := e
        simp only [Value.slice.injEq, Option.some.injEq, Addr.mk.injEq] at e'
        exact (Below.heap_setCell w2 ⟨q, 0, none⟩ _ g (by rw [← e'.1.1]; exact hgq)).trans hh
    · intro e; exact hgq (by simpa [Value.ownBlock] using e)
    · intro j hj
      have hj' : gg = j := by simpa [Value.ownBlock] using hj
      subst hj'
      rcases HA.out with e | e
      · exact .inl e
      · exact .inr (by omega)

set_option maxHeartbeats 4000000 in
theorem put_full (t : TypeId) (rest : List Value) (q L : Nat) (xs : List Nd) (fl : Bool) (v : Value) (y : Nd) (w : World) (hx : 24 ≤ xs.length) (hs : GS t rest q L xs fl v w) :
    Calls Try.prog 102 #[.pointer (some ⟨q, 0, none⟩), .agg #[.string y.op, .int .i64 y.a, .int .i64 y.b, .int .i64 y.v]] w fun e w' => e = .returned (.int .i64 0) ∧ GP t rest q L v w (xs, true) w' := by
  obtain ⟨AV, cv, rfl⟩ := hs.form
  obtain ⟨w1, hw1⟩ : ∃ w1, w1 = w.alloc (.cells #[.string y.op, .int .i64 y.a, .int .i64 y.b, .int .i64 y.v] 62) := ⟨_, rfl⟩
  have B1 : Hid (Below w.heap.size w w1) := by unfold Hid; rw [hw1]; exact (Below.refl w.heap.size w).alloc (Nat.le_refl _) _
  have S1 : Hid (GS t rest q L xs fl (.slice AV xs.length cv) w1) := hs.next B1.out
  have S2 := Lib.hid (S1.out.flag true)
  have k0 := S1.out.c0
  have k1 := S1.out.c1
  have kf := S1.out.fz 1
  have ks := S2.out.c1
  have x24 : (24 : Int) ≤ (xs.length : Int) := by omega
  have HW1 := Lib.hid hw1
  rw [hw1] at k0 k1 kf ks
  clear hs hw1
  go_enter Try.func102, Try.ntmps102
  go_wp2
  go_ret
  rw [← HW1.out]
  exact ⟨rfl, _, S2.out, (Fr.ofBelow B1.out).set 1 _, fun j hj => .inl hj⟩

set_option maxHeartbeats 4000000 in
theorem put_failed (t : TypeId) (rest : List Value) (q L : Nat) (xs : List Nd) (v : Value) (y : Nd) (w : World) (hx : xs.length < 24) (hs : GS t rest q L xs true v w) :
    Calls Try.prog 102 #[.pointer (some ⟨q, 0, none⟩), .agg #[.string y.op, .int .i64 y.a, .int .i64 y.b, .int .i64 y.v]] w fun e w' => e = .returned (.int .i64 0) ∧ GP t rest q L v w (xs, true) w' := by
  obtain ⟨AV, cv, rfl⟩ := hs.form
  obtain ⟨w1, hw1⟩ : ∃ w1, w1 = w.alloc (.cells #[.string y.op, .int .i64 y.a, .int .i64 y.b, .int .i64 y.v] 62) := ⟨_, rfl⟩
  have B1 : Hid (Below w.heap.size w w1) := by unfold Hid; rw [hw1]; exact (Below.refl w.heap.size w).alloc (Nat.le_refl _) _
  have S1 : Hid (GS t rest q L xs true (.slice AV xs.length cv) w1) := hs.next B1.out
  have k0 := S1.out.c0
  have k1 := S1.out.c1
  have x24 : (xs.length : Int) < 24 := by omega
  have HW1 := Lib.hid hw1
  rw [hw1] at k0 k1
  clear hs hw1
  go_enter Try.func102, Try.ntmps102
  go_wp2
  go_ret
  rw [← HW1.out]
  exact ⟨rfl, _, S1.out, Fr.ofBelow B1.out, fun j hj => .inl hj⟩

theorem put_gen (t : TypeId) (rest : List Value) (q L : Nat) (s : List Nd × Bool) (v : Value) (y : Nd) (w : World) (hL : L ≤ w.heap.size) (hs : GS t rest q L s.1 s.2 v w) :
    Calls Try.prog 102 #[.pointer (some ⟨q, 0, none⟩), .agg #[.string y.op, .int .i64 y.a, .int .i64 y.b, .int .i64 y.v]] w fun e w' => e = .returned (.int .i64 (bp s y).2) ∧ GP t rest q L v w (bp s y).1 w' := by
  obtain ⟨xs, fl⟩ := s
  by_cases h : 24 ≤ xs.length
  · rw [show bp (xs, fl) y = ((xs, true), 0) by unfold bp; rw [if_pos h]]
    exact put_full t rest q L xs fl v y w h hs
  · cases fl
    · rw [show bp (xs, false) y = ((xs ++ [y], false), (xs.length : Int)) by unfold bp; rw [if_neg h, if_neg (by simp)]]
      exact put_new t rest q L xs v y w (by omega) hL hs
    · rw [show bp (xs, true) y = ((xs, true), 0) by unfold bp; rw [if_neg h, if_pos rfl]]
      exact put_failed t rest q L xs v y w (by omega) hs
end Go.Proofs.Ytieljgfocgdngaa

/- A node with its operands placed by a walk that builds. -/
namespace Go.Proofs.Ytieljgfocgdngaa
open Go.RowKit
set_option linter.unusedVariables false
set_option maxRecDepth 100000

/-- The node whose operands a walk places, one after the other. -/
def woN (T : Nat → List Nd × Bool → (List Nd × Bool) × Int) (n : Nd) (s : List Nd × Bool) : (List Nd × Bool) × Nd :=
  if ar n.op = 1 then ((T n.a.toNat s).1, ⟨n.op, (T n.a.toNat s).2, 0, n.v⟩)
  else if ar n.op = 2 then ((T n.b.toNat (T n.a.toNat s).1).1, ⟨n.op, (T n.a.toNat s).2, (T n.b.toNat (T n.a.toNat s).1).2, n.v⟩)
  else (s, ⟨n.op, 0, 0, n.v⟩)

theorem xn_fr {w w' : World} {g q : Nat} {r : Option Nat} {n : Nd} (h : XN w g n) (hf : Fr q r w w') (h1 : g ≠ q) (h2 : r ≠ some g) : XN w' g n := (hf.block g h.lt h1 h2).trans h

set_option maxHeartbeats 8000000 in
theorem withOperands_gen (fn : Nat) (T : Nat → List Nd × Bool → (List Nd × Bool) × Int) (t : TypeId) (rest : List Value) (q L C k : Nat) (n : Nd) (s : List Nd × Bool) (v : Value) (w0 w : World) (hn : isNode n k = true) (hC : C ≤ w0.heap.size) (hCq : C ≤ q) (hCL : C ≤ L) (hb0 : Below C w0 w) (hs : GS t rest q L s.1 s.2 v w) (hent : ∀ (args : Array Value) (W : World), Sem.run Try.prog (callFunc fn args) W = .ok (.enter fn args) W)
    (hcall : ∀ (a : Nat) (s : List Nd × Bool) (v : Value) (W : World), a < k → Below C w0 W → GS t rest q L s.1 s.2 v W → Calls Try.prog fn #[.pointer (some ⟨q, 0, none⟩), .int .i64 a] W fun e w' => e = .returned (.int .i64 (T a s).2) ∧ GP t rest q L v W (T a s).1 w') :
    Calls Try.prog 103 #[.agg #[.string n.op, .int .i64 n.a, .int .i64 n.b, .int .i64 n.v], .func (.func fn) #[.pointer (some ⟨q, 0, none⟩)] #[]] w fun e w' => e = .returned (.agg #[.string (woN T n s).2.op, .int .i64 (woN T n s).2.a, .int .i64 (woN T n s).2.b, .int .i64 (woN T n s).2.v]) ∧ GP t rest q L v w (woN T n s).1 w' := by
  obtain ⟨op, a, b, x⟩ := n
  dsimp only
  have hOc := Lib.hid fun W => operandCount_any op W
  obtain ⟨W1, hW1⟩ : ∃ W1, W1 = w.alloc (.cells #[.string op, .int .i64 a, .int .i64 b, .int .i64 x] 62) := ⟨_, rfl⟩
  have b1 : Below w.heap.size w W1 := by rw [hW1]; exact (Below.refl _ _).alloc (Nat.le_refl _) _
  have x1 : XN W1 w.heap.size ⟨op, a, b, x⟩ := by rw [hW1]; exact xn_new _ ⟨op, a, b, x⟩
  have z1 : W1.heap.size = w.heap.size + 1 := by rw [hW1]; simp
  obtain ⟨W2, hW2⟩ : ∃ W2, W2 = W1.alloc (.cells #[.string ⟨#[]⟩, .int .i64 0, .int .i64 0, .int .i64 0] 62) := ⟨_, rfl⟩
  have c2 : Below W1.heap.size W1 W2 := by rw [hW2]; exact (Below.refl _ _).alloc (Nat.le_refl _) _
  have x2 := Lib.hid (x1.next c2)
  have r2 : Hid (XN W2 (w.heap.size + 1) zeroNd) := by unfold Hid; rw [hW2, ← z1]; exact xn_new _ zeroNd
  have b2 := Lib.hid (b1.trans (c2.mono b1.size))
  have z2 : Hid (W2.heap.size = w.heap.size + 2) := by unfold Hid; rw [hW2]; simp [z1]
  have e2 : Hid (W2 = (w.alloc (.cells #[.string op, .int .i64 a, .int .i64 b, .int .i64 x] 62)).alloc (.cells #[.string ⟨#[]⟩, .int .i64 0, .int .i64 0, .int .i64 0] 62)) := by unfold Hid; rw [hW2, hW1]
  have hqs := hs.lt
  have G2 := Lib.hid (hs.next b2.out)
  have hCw : C ≤ w.heap.size := by have := hb0.size; omega
  have hB0 := Lib.hid hb0
  have B2 := Lib.hid (hb0.trans (b2.out.mono hCw))
  have own0 := Lib.hid fun j (hj : v.ownBlock = some j) => hs.own j hj
  have hcl := Lib.hid hcall
  clear hW1 hW2 b1 x1 z1 c2 hs hcall hb0
  obtain ⟨d0, d1, d2, d3⟩ := x2.out.cells
  rcases ar_cases_nd hn with ⟨h1, h2, h3, h4, h5⟩ | ⟨h1, h2, h3, h4, h5, h6⟩ | ⟨h1, h2, h3, h4, h5, h6, h7⟩
  · dsimp only at h1 h2 h3 h4 h5
    have hmv := Lib.hid (show woN T ⟨op, a, b, x⟩ s = (s, ⟨op, 0, 0, x⟩) by unfold woN; simp [h1])
    rw [hmv.out]
    subst h4; subst h5
    rw [h1] at hOc
    clear h1 h2 h3 hmv hcl hn
    have f0 := r2.out.fz 0
    have f1 := r2.out.fz 1
    have f2 := r2.out.fz 2
    have f3 := r2.out.fz 3
    obtain ⟨g0, g1, g2, g3⟩ := r2.out.cells
    have R := Lib.hid (r2.out.put4 ⟨op, 0, 0, x⟩)
    have RB := Lib.hid (below_put4 b2.out (g := w.heap.size + 1) (by omega) ⟨op, 0, 0, x⟩)
    have RG : Hid (GP t rest q L v w s (put4 W2 (w.heap.size + 1) ⟨op, 0, 0, x⟩)) := by
      have hne : w.heap.size + 1 ≠ q := by omega
      have hno : v.ownBlock ≠ some (w.heap.size + 1) := fun e => by have := own0.out _ e; omega
      refine ⟨v, ?_, ?_, fun j hj => .inl hj⟩
      · exact (((G2.out.other (p := ⟨_, 0, none⟩) hne hno _).other (p := ⟨_, 1, none⟩) hne hno _).other (p := ⟨_, 2, none⟩) hne hno _).other (p := ⟨_, 3, none⟩) hne hno _
      · exact Fr.ofBelow RB.out
    go_enter Try.func103, Try.ntmps103
    go_wp2_with (fail)
    rw [← e2.out]
    refine (hOc.out _).mono ?_
    rintro e w4 ⟨rfl, rfl⟩
    go_wp2
    exact node_ret rfl rfl R.out ⟨rfl, RG.out⟩
  · dsimp only at h1 h2 h3 h4 h5 h6
    obtain ⟨pa, rfl⟩ := Int.eq_ofNat_of_zero_le h4
    subst h6
    have hmv := Lib.hid (show woN T ⟨op, (pa : Int), 0, x⟩ s = ((T pa s).1, ⟨op, (T pa s).2, 0, x⟩) by unfold woN; simp [h1])
    rw [hmv.out]
    rw [h1] at hOc
    have hpam : pa < k := by omega
    have HA := Lib.hid (hcl.out pa s v W2 hpam B2.out G2.out)
    clear h1 h2 h3 hmv hcl hn
    generalize T pa s = ra at *
    obtain ⟨sa, va⟩ := ra
    dsimp only at HA ⊢
    go_enter Try.func103, Try.ntmps103
    go_wp2_with (fail)
    rw [← e2.out]
    refine (hOc.out _).mono ?_
    rintro e w4 ⟨rfl, rfl⟩
    go_wp2_with (fail)
    refine HA.out.mono ?_
    rintro e w5 ⟨rfl, v5, g5, f5, o5⟩
    have hne : w.heap.size ≠ q := by omega
    have hno : v.ownBlock ≠ some w.heap.size := fun e => by have := own0.out _ e; omega
    have hne1 : w.heap.size + 1 ≠ q := by omega
    have hno1 : v.ownBlock ≠ some (w.heap.size + 1) := fun e => by have := own0.out _ e; omega
    have hso : v5.ownBlock ≠ some w.heap.size := fun e => by
      rcases o5 _ e with e' | e'
      · exact hno e'
      · have := z2.out; omega
    have hso1 : v5.ownBlock ≠ some (w.heap.size + 1) := fun e => by
      rcases o5 _ e with e' | e'
      · exact hno1 e'
      · have := z2.out; omega
    have x5 := xn_fr x2.out f5 hne hno
    have r5 := xn_fr r2.out f5 hne1 hno1
    have f1' := x5.fz 1
    have x6 := x5.setA va
    have r6 := r5.other (q := w.heap.size) 1 (.int .i64 va) (by omega)
    have g6 := g5.other (p := ⟨w.heap.size, 1, none⟩) hne hso (.int .i64 va)
    have ff6 := ((Fr.ofBelow (q := q) (r := v.ownBlock) b2.out).trans f5 (fun j hj => .inl hj)).far (p := ⟨w.heap.size, 1, none⟩) (Nat.le_refl _) (.int .i64 va)
    obtain ⟨k0, k1, k2, k3⟩ := x5.cells
    obtain ⟨m0, m1, m2, m3⟩ := x6.cells
    have f0 := r6.fz 0
    have f1 := r6.fz 1
    have f2 := r6.fz 2
    have f3 := r6.fz 3
    obtain ⟨y0, y1, y2, y3⟩ := r6.cells
    have R := Lib.hid (r6.put4 ⟨op, va, 0, x⟩)
    have RG : Hid (GP t rest q L v w sa (put4 (w5.setCell ⟨w.heap.size, 1, none⟩ (.int .i64 va)) (w.heap.size + 1) ⟨op, va, 0, x⟩)) := by
      refine ⟨v5, ?_, ?_, fun j hj => ?_⟩
      · exact (((g6.other (p := ⟨_, 0, none⟩) hne1 hso1 _).other (p := ⟨_, 1, none⟩) hne1 hso1 _).other (p := ⟨_, 2, none⟩) hne1 hso1 _).other (p := ⟨_, 3, none⟩) hne1 hso1 _
      · exact (((ff6.far (p := ⟨_, 0, none⟩) (by simp) _).far (p := ⟨_, 1, none⟩) (by simp) _).far (p := ⟨_, 2, none⟩) (by simp) _).far (p := ⟨_, 3, none⟩) (by simp) _
      · rcases o5 j hj with e | e
        · exact .inl e
        · exact .inr (by have := z2.out; omega)
    clear x5 r5 x6 r6 g5 f5 o5 g6 ff6 hso hso1 d0 d1 d2 d3
    go_wp2
    exact node_ret rfl rfl R.out ⟨rfl, RG.out⟩
  · dsimp only at h1 h2 h3 h4 h5 h6 h7
    obtain ⟨pa, rfl⟩ := Int.eq_ofNat_of_zero_le h4
    obtain ⟨pb, rfl⟩ := Int.eq_ofNat_of_zero_le h6
    have hmv := Lib.hid (show woN T ⟨op, (pa : Int), (pb : Int), x⟩ s = ((T pb (T pa s).1).1, ⟨op, (T pa s).2, (T pb (T pa s).1).2, x⟩) by unfold woN; simp [h1])
    rw [hmv.out]
    rw [h1] at hOc
    have hpam : pa < k := by omega
    have hpbm : pb < k := by omega
    have HA := Lib.hid (hcl.out pa s v W2 hpam B2.out G2.out)
    have HB := Lib.hid (fun s v W => hcl.out pb s v W hpbm)
    clear h1 h2 h3 hmv hcl hn
    generalize T pa s = ra at *
    obtain ⟨sa, va⟩ := ra
    dsimp only at HA ⊢
    have HB1 := Lib.hid (fun v W => HB.out sa v W)
    clear HB
    generalize T pb sa = rb at *
    obtain ⟨sb, vb⟩ := rb
    dsimp only at HB1 ⊢
    go_enter Try.func103, Try.ntmps103
    go_wp2_with (fail)
    rw [← e2.out]
    refine (hOc.out _).mono ?_
    rintro e w4 ⟨rfl, rfl⟩
    go_wp2_with (fail)
    refine HA.out.mono ?_
    rintro e w5 ⟨rfl, v5, g5, f5, o5⟩
    have hne : w.heap.size ≠ q := by omega
    have hno : v.ownBlock ≠ some w.heap.size := fun e => by have := own0.out _ e; omega
    have hne1 : w.heap.size + 1 ≠ q := by omega
    have hno1 : v.ownBlock ≠ some (w.heap.size + 1) := fun e => by have := own0.out _ e; omega
    have hso : v5.ownBlock ≠ some w.heap.size := fun e => by
      rcases o5 _ e with e' | e'
      · exact hno e'
      · have := z2.out; omega
    have hso1 : v5.ownBlock ≠ some (w.heap.size + 1) := fun e => by
      rcases o5 _ e with e' | e'
      · exact hno1 e'
      · have := z2.out; omega
    have x5 := xn_fr x2.out f5 hne hno
    have r5 := xn_fr r2.out f5 hne1 hno1
    have f1' := x5.fz 1
    have x6 := Lib.hid (x5.setA va)
    have r6 := Lib.hid (r5.other (q := w.heap.size) 1 (.int .i64 va) (by omega))
    have g6 := Lib.hid (g5.other (p := ⟨w.heap.size, 1, none⟩) hne hso (.int .i64 va))
    have ff6 := Lib.hid (((Fr.ofBelow (q := q) (r := v.ownBlock) b2.out).trans f5 (fun j hj => .inl hj)).far (p := ⟨w.heap.size, 1, none⟩) (Nat.le_refl _) (.int .i64 va))
    have bb6 : Hid (Below C w0 (w5.setCell ⟨w.heap.size, 1, none⟩ (.int .i64 va))) := by
      unfold Hid
      exact hB0.out.trans (ff6.out.below hCw hCq (fun j hj => Nat.le_trans hCL (own0.out j hj).1))
    have o6 : Hid (∀ j, v5.ownBlock = some j → v.ownBlock = some j ∨ w.heap.size ≤ j) := fun j hj => by
      rcases o5 j hj with e | e
      · exact .inl e
      · exact .inr (by have := z2.out; omega)
    have s6 : Hid (w.heap.size + 2 ≤ (w5.setCell ⟨w.heap.size, 1, none⟩ (.int .i64 va)).heap.size) := by
      have h1 := f5.size; have h2 := z2.out; unfold Hid; simp [World.setCell]; omega
    obtain ⟨k0, k1, k2, k3⟩ := x5.cells
    clear x5 r5 g5 f5 o5 d0 d1 d2 d3
    obtain ⟨W6, hW6⟩ : ∃ W6, W6 = w5.setCell ⟨w.heap.size, 1, none⟩ (.int .i64 va) := ⟨_, rfl⟩
    rw [← hW6] at x6 r6 g6 ff6 bb6 s6
    have HW6 := Lib.hid hW6
    obtain ⟨m0, m1, m2, m3⟩ := x6.out.cells
    rw [hW6] at m2
    clear hW6 m0 m1 m3
    go_wp2_with (fail)
    rw [← HW6.out]
    refine (HB1.out v5 W6 bb6.out g6.out).mono ?_
    rintro e w7 ⟨rfl, v7, g7, f7, o7⟩
    clear k0 k1 k2 k3 m2 f1'
    have hto : v7.ownBlock ≠ some w.heap.size := fun e => by
      rcases o7 _ e with e' | e'
      · exact hso e'
      · have := s6.out; omega
    have hto1 : v7.ownBlock ≠ some (w.heap.size + 1) := fun e => by
      rcases o7 _ e with e' | e'
      · exact hso1 e'
      · have := s6.out; omega
    have x7 := xn_fr x6.out f7 hne hso
    have r7 := xn_fr r6.out f7 hne1 hso1
    have f2' := x7.fz 2
    have x8 := x7.setB vb
    have r8 := r7.other (q := w.heap.size) 2 (.int .i64 vb) (by omega)
    have g8 := g7.other (p := ⟨w.heap.size, 2, none⟩) hne hto (.int .i64 vb)
    have ff8 := (ff6.out.trans f7 (fun j hj => o6.out j hj)).far (p := ⟨w.heap.size, 2, none⟩) (Nat.le_refl _) (.int .i64 vb)
    obtain ⟨k0, k1, k2, k3⟩ := x7.cells
    obtain ⟨m0, m1, m2, m3⟩ := x8.cells
    have f0 := r8.fz 0
    have f1 := r8.fz 1
    have f2 := r8.fz 2
    have f3 := r8.fz 3
    obtain ⟨y0, y1, y2, y3⟩ := r8.cells
    have R := Lib.hid (r8.put4 ⟨op, va, vb, x⟩)
    have RG : Hid (GP t rest q L v w sb (put4 (w7.setCell ⟨w.heap.size, 2, none⟩ (.int .i64 vb)) (w.heap.size + 1) ⟨op, va, vb, x⟩)) := by
      refine ⟨v7, ?_, ?_, fun j hj => ?_⟩
      · exact (((g8.other (p := ⟨_, 0, none⟩) hne1 hto1 _).other (p := ⟨_, 1, none⟩) hne1 hto1 _).other (p := ⟨_, 2, none⟩) hne1 hto1 _).other (p := ⟨_, 3, none⟩) hne1 hto1 _
      · exact (((ff8.far (p := ⟨_, 0, none⟩) (by simp) _).far (p := ⟨_, 1, none⟩) (by simp) _).far (p := ⟨_, 2, none⟩) (by simp) _).far (p := ⟨_, 3, none⟩) (by simp) _
      · rcases o7 j hj with e | e
        · exact o6.out j e
        · exact .inr (by have := s6.out; omega)
    clear x7 r7 x8 r8 g7 f7 o7 g8 ff8 hto hto1
    go_wp2
    exact node_ret rfl rfl R.out ⟨rfl, RG.out⟩
end Go.Proofs.Ytieljgfocgdngaa

/- ExpandExpr: what it answers. No program. -/
namespace Go.Proofs.Ytieljgfocgdngaa
open Go.RowKit
set_option linter.unusedVariables false

/-- The program's walk, as a change of the builder's state. -/
def ew (es : List Nd) : Nat → Nat → List Nd × Bool → (List Nd × Bool) × Int
  | 0, _, s => (s, 0)
  | F + 1, i, s => if s.2 = true then (s, 0) else bp (woN (ew es F) (es.getD i zeroNd) s).1 (woN (ew es F) (es.getD i zeroNd) s).2
/-- The model's walk. -/
def woM (T : Nat → List Nd → List Nd × Int) (n : Nd) (xs : List Nd) : List Nd × Nd :=
  if ar n.op = 1 then ((T n.a.toNat xs).1, ⟨n.op, (T n.a.toNat xs).2, 0, n.v⟩)
  else if ar n.op = 2 then ((T n.b.toNat (T n.a.toNat xs).1).1, ⟨n.op, (T n.a.toNat xs).2, (T n.b.toNat (T n.a.toNat xs).1).2, n.v⟩)
  else (xs, ⟨n.op, 0, 0, n.v⟩)
def mw (es : List Nd) : Nat → Nat → List Nd → List Nd × Int
  | 0, _, xs => (xs, 0)
  | F + 1, i, xs => if 24 < xs.length then (xs, 0) else ((woM (mw es F) (es.getD i zeroNd) xs).1 ++ [(woM (mw es F) (es.getD i zeroNd) xs).2], ((woM (mw es F) (es.getD i zeroNd) xs).1.length : Int))
/-- The tree itself, from the index o on. -/
def tr (es : List Nd) : Nat → Nat → Nat → List Nd
  | 0, _, _ => []
  | F + 1, o, i =>
    let n := es.getD i zeroNd
    if ar n.op = 1 then
      let la := tr es F o n.a.toNat
      la ++ [⟨n.op, ((o + la.length : Nat) : Int) - 1, 0, n.v⟩]
    else if ar n.op = 2 then
      let la := tr es F o n.a.toNat
      let lb := tr es F (o + la.length) n.b.toNat
      la ++ lb ++ [⟨n.op, ((o + la.length : Nat) : Int) - 1, ((o + la.length + lb.length : Nat) : Int) - 1, n.v⟩]
    else [⟨n.op, 0, 0, n.v⟩]
theorem tr_pos (es : List Nd) (F o i : Nat) : 1 ≤ (tr es (F + 1) o i).length := by
  rw [tr]; simp only []
  split
  · simp
  · split <;> (simp; try omega)

theorem getD_nd {es : List Nd} {i : Nat} (h : i < es.length) : es.getD i zeroNd = es[i] := by rw [List.getD_eq_getElem?_getD, List.getElem?_eq_getElem h]; rfl

theorem ew_failed (es : List Nd) (F i : Nat) (xs : List Nd) : ew es F i (xs, true) = ((xs, true), 0) := by
  cases F with
  | zero => rfl
  | succ F => unfold ew; rw [if_pos rfl]
theorem bp_failed (xs : List Nd) (y : Nd) : bp (xs, true) y = ((xs, true), 0) := by unfold bp; split <;> simp_all
theorem bp_room {xs : List Nd} (y : Nd) (h : xs.length < 24) : bp (xs, false) y = ((xs ++ [y], false), (xs.length : Int)) := by
  unfold bp; rw [if_neg (by simpa using h), if_neg (by simp)]
theorem bp_full {xs : List Nd} (fl : Bool) (y : Nd) (h : 24 ≤ xs.length) : bp (xs, fl) y = ((xs, true), 0) := by
  unfold bp; rw [if_pos (by simpa using h)]

/-- What both walks come to. -/
def Fit (x : Nat) (R : (List Nd × Bool) × Int) (xs l : List Nd) : Prop :=
  (xs.length + l.length ≤ 24 → R = ((xs ++ l, false), ((xs.length + l.length : Nat) : Int) - 1)) ∧ (24 < xs.length + l.length → ∃ zs r, R = ((zs, true), r))

theorem ew_tr {es : List Nd} (hok : okFrom es 0 = true) : ∀ (F i : Nat) (xs : List Nd), i < F → i < es.length → xs.length ≤ 24 → Fit 0 (ew es F i (xs, false)) xs (tr es F xs.length i) := by
  intro F
  induction F with
  | zero => intro i xs h; omega
  | succ F ih =>
    intro i xs hi hie hx
    have hnd := ok_get hok hie
    have e := getD_nd hie
    have hE : ew es (F + 1) i (xs, false) = bp (woN (ew es F) es[i] (xs, false)).1 (woN (ew es F) es[i] (xs, false)).2 := by rw [ew, if_neg (by simp), e]
    rw [hE]
    unfold tr; simp only []; rw [e]
    clear hE e
    generalize es[i] = n at *
    rcases ar_cases_nd hnd with ⟨h1, -, -, -, -⟩ | ⟨h1, -, -, ha, ha', -⟩ | ⟨h1, -, -, ha, ha', hb, hb'⟩
    · rw [if_neg (by omega), if_neg (by omega)]
      unfold woN; rw [if_neg (by omega), if_neg (by omega)]
      refine ⟨fun h => ?_, fun h => ?_⟩
      · simp only [List.length_cons, List.length_nil] at h ⊢
        rw [bp_room _ (by omega)]; simp
      · simp only [List.length_cons, List.length_nil] at h
        rw [bp_full _ _ (by omega)]; exact ⟨_, _, rfl⟩
    · rw [if_pos h1]
      unfold woN; rw [if_pos h1]
      obtain ⟨i1, i2⟩ := ih n.a.toNat xs (by omega) (by omega) hx
      generalize tr es F xs.length n.a.toNat = la at *
      refine ⟨fun h => ?_, fun h => ?_⟩
      · simp only [List.length_append, List.length_cons, List.length_nil] at h ⊢
        rw [i1 (by omega)]
        simp only
        rw [bp_room _ (by simp; omega)]; simp; omega
      · simp only [List.length_append, List.length_cons, List.length_nil] at h
        by_cases h9 : xs.length + la.length ≤ 24
        · rw [i1 h9]; rw [bp_full _ _ (by simp; omega)]; exact ⟨_, _, rfl⟩
        · obtain ⟨zs, r, h8⟩ := i2 (by omega)
          rw [h8, bp_failed]; exact ⟨_, _, rfl⟩
    · rw [if_neg (by omega), if_pos h1]
      unfold woN; rw [if_neg (by omega), if_pos h1]
      obtain ⟨i1, i2⟩ := ih n.a.toNat xs (by omega) (by omega) hx
      generalize tr es F xs.length n.a.toNat = la at *
      by_cases h9 : xs.length + la.length ≤ 24
      · obtain ⟨j1, j2⟩ := ih n.b.toNat (xs ++ la) (by omega) (by omega) (by simpa using h9)
        rw [List.length_append] at j1 j2
        generalize tr es F (xs.length + la.length) n.b.toNat = lb at *
        rw [i1 h9]
        refine ⟨fun h => ?_, fun h => ?_⟩
        · simp only [List.length_append, List.length_cons, List.length_nil] at h ⊢
          try simp only
          rw [j1 (by omega)]
          rw [bp_room _ (by simp; omega)]; simp; omega
        · simp only [List.length_append, List.length_cons, List.length_nil] at h
          try simp only
          by_cases h7 : xs.length + la.length + lb.length ≤ 24
          · rw [j1 h7]; rw [bp_full _ _ (by simp; omega)]; exact ⟨_, _, rfl⟩
          · obtain ⟨zs, r, h8⟩ := j2 (by omega)
            rw [h8, bp_failed]; exact ⟨_, _, rfl⟩
      · obtain ⟨zs, r, h8⟩ := i2 (by omega)
        refine ⟨fun h => ?_, fun h => ?_⟩
        · simp only [List.length_append, List.length_cons, List.length_nil] at h; omega
        · rw [h8]; simp only; rw [ew_failed, bp_failed]; exact ⟨_, _, rfl⟩

theorem mw_big (es : List Nd) (F i : Nat) (xs : List Nd) (h : 24 < xs.length) : mw es F i xs = (xs, 0) := by
  cases F with
  | zero => rfl
  | succ F => unfold mw; rw [if_pos h]
theorem mw_len {es : List Nd} : ∀ (F i : Nat) (xs : List Nd), xs.length ≤ 24 → (mw es F i xs).1.length ≤ 24 + F ∧ xs.length ≤ (mw es F i xs).1.length := by
  intro F
  induction F with
  | zero => intro i xs hx; exact ⟨by simpa [mw] using hx, by simp [mw]⟩
  | succ F ih =>
    intro i xs hx
    rw [mw, if_neg (by omega)]
    generalize es.getD i zeroNd = n
    have ha := ih n.a.toNat xs hx
    unfold woM
    split
    · simp only [List.length_append, List.length_cons, List.length_nil]; omega
    · split
      · by_cases h : (mw es F n.a.toNat xs).1.length ≤ 24
        · have hb := ih n.b.toNat _ h
          simp only [List.length_append, List.length_cons, List.length_nil]; omega
        · rw [mw_big es F n.b.toNat _ (by omega)]
          simp only [List.length_append, List.length_cons, List.length_nil]; omega
      · simp only [List.length_append, List.length_cons, List.length_nil]; omega
theorem mw_tr {es : List Nd} (hok : okFrom es 0 = true) : ∀ (F i : Nat) (xs : List Nd), i < F → i < es.length → xs.length ≤ 24 →
    (xs.length + (tr es F xs.length i).length ≤ 24 → mw es F i xs = (xs ++ tr es F xs.length i, ((xs.length + (tr es F xs.length i).length : Nat) : Int) - 1)) ∧ (24 < xs.length + (tr es F xs.length i).length → 24 < (mw es F i xs).1.length) := by
  intro F
  induction F with
  | zero => intro i xs h; omega
  | succ F ih =>
    intro i xs hi hie hx
    have hnd := ok_get hok hie
    have e := getD_nd hie
    have hE : mw es (F + 1) i xs = ((woM (mw es F) es[i] xs).1 ++ [(woM (mw es F) es[i] xs).2], ((woM (mw es F) es[i] xs).1.length : Int)) := by rw [mw, if_neg (by omega), e]
    rw [hE]
    unfold tr; simp only []; rw [e]
    clear hE e
    generalize es[i] = n at *
    rcases ar_cases_nd hnd with ⟨h1, -, -, -, -⟩ | ⟨h1, -, -, ha, ha', -⟩ | ⟨h1, -, -, ha, ha', hb, hb'⟩
    · rw [if_neg (by omega), if_neg (by omega)]
      unfold woM; rw [if_neg (by omega), if_neg (by omega)]
      refine ⟨fun h => ?_, fun h => ?_⟩
      · simp
      · simp only [List.length_append, List.length_cons, List.length_nil] at h ⊢; omega
    · rw [if_pos h1]
      unfold woM; rw [if_pos h1]
      obtain ⟨i1, i2⟩ := ih n.a.toNat xs (by omega) (by omega) hx
      have hle := (mw_len F n.a.toNat xs hx (es := es)).2
      generalize tr es F xs.length n.a.toNat = la at *
      refine ⟨fun h => ?_, fun h => ?_⟩
      · simp only [List.length_append, List.length_cons, List.length_nil] at h ⊢
        rw [i1 (by omega)]
        simp; omega
      · simp only [List.length_append, List.length_cons, List.length_nil] at h ⊢
        by_cases h9 : xs.length + la.length ≤ 24
        · rw [i1 h9]; simp only [List.length_append]; omega
        · have := i2 (by omega); omega
    · rw [if_neg (by omega), if_pos h1]
      unfold woM; rw [if_neg (by omega), if_pos h1]
      obtain ⟨i1, i2⟩ := ih n.a.toNat xs (by omega) (by omega) hx
      have hle := (mw_len F n.a.toNat xs hx (es := es)).2
      generalize tr es F xs.length n.a.toNat = la at *
      by_cases h9 : xs.length + la.length ≤ 24
      · obtain ⟨j1, j2⟩ := ih n.b.toNat (xs ++ la) (by omega) (by omega) (by simpa using h9)
        rw [List.length_append] at j1 j2
        generalize tr es F (xs.length + la.length) n.b.toNat = lb at *
        rw [i1 h9]
        refine ⟨fun h => ?_, fun h => ?_⟩
        · simp only [List.length_append, List.length_cons, List.length_nil] at h ⊢
          try simp only
          rw [j1 (by omega)]
          simp; omega
        · simp only [List.length_append, List.length_cons, List.length_nil] at h ⊢
          by_cases h7 : xs.length + la.length + lb.length ≤ 24
          · rw [j1 h7]; simp only [List.length_append]; omega
          · have := j2 (by omega); omega
      · have h8 := i2 (by omega)
        refine ⟨fun h => ?_, fun h => ?_⟩
        · simp only [List.length_append, List.length_cons, List.length_nil] at h; omega
        · simp only [List.length_append, List.length_cons, List.length_nil]
          rw [mw_big es F n.b.toNat _ h8]; dsimp only; omega

def expandL (es : List Nd) : List Nd := tr es es.length 0 (es.length - 1)
def expandOk (es : List Nd) : Bool := good es && decide ((expandL es).length ≤ 24)
def expandR (es : List Nd) : List Nd := if expandOk es = true then expandL es else []
theorem expandR_len (es : List Nd) : (expandR es).length ≤ 1048576 := by
  unfold expandR; split
  · rename_i h; simp only [expandOk, Bool.and_eq_true, decide_eq_true_eq] at h; omega
  · simp
theorem expand_ew {es : List Nd} (hg : good es = true) : (expandOk es = true ∧ ∃ r, ew es es.length (es.length - 1) ([], false) = ((expandR es, false), r)) ∨ (expandOk es = false ∧ expandR es = [] ∧ ∃ zs r, ew es es.length (es.length - 1) ([], false) = ((zs, true), r)) := by
  obtain ⟨hl1, hl24, hok⟩ := good_len hg
  obtain ⟨h1, h2⟩ := ew_tr hok es.length (es.length - 1) [] (by omega) (by omega) (by simp)
  simp only [List.length_nil, Nat.zero_add, List.nil_append] at h1 h2
  by_cases h : (expandL es).length ≤ 24
  · have hk : expandOk es = true := by simp [expandOk, hg, h]
    left; refine ⟨hk, ?_⟩
    rw [h1 h, expandR, if_pos hk]; exact ⟨_, rfl⟩
  · have hk : expandOk es = false := by simp [expandOk, h]
    right; refine ⟨hk, by simp [expandR, hk], ?_⟩
    exact h2 (by unfold expandL at h; omega)
theorem expand_mw {es : List Nd} (hg : good es = true) : (expandOk es = true ∧ (mw es es.length (es.length - 1) []).1 = expandR es ∧ (expandR es).length ≤ 24) ∨ (expandOk es = false ∧ expandR es = [] ∧ 24 < (mw es es.length (es.length - 1) []).1.length) := by
  obtain ⟨hl1, hl24, hok⟩ := good_len hg
  obtain ⟨h1, h2⟩ := mw_tr hok es.length (es.length - 1) [] (by omega) (by omega) (by simp)
  simp only [List.length_nil, Nat.zero_add, List.nil_append] at h1 h2
  by_cases h : (expandL es).length ≤ 24
  · have hk : expandOk es = true := by simp [expandOk, hg, h]
    left; refine ⟨hk, ?_⟩
    rw [h1 h, expandR, if_pos hk]; exact ⟨rfl, h⟩
  · have hk : expandOk es = false := by simp [expandOk, h]
    right; refine ⟨hk, by simp [expandR, hk], ?_⟩
    exact h2 (by unfold expandL at h; omega)
end Go.Proofs.Ytieljgfocgdngaa

/- Constants folded. No program. -/
namespace Go.Proofs.Ytieljgfocgdngaa
open Go.RowKit
set_option linter.unusedVariables false

def constB : ByteArray := ⟨#[99, 111, 110, 115, 116]⟩
def fall (fs : List Nd) (ps : List Int) : Bool := ps.all fun p => isConst (fs.getD p.toNat zeroNd).op
def fB (fs : List Nd) (n : Nd) : Int := if 1 < (parts n).length then (fs.getD n.b.toNat zeroNd).v else 0
def fval (fs : List Nd) (n : Nd) : Int := ap n.op (fs.getD n.a.toNat zeroNd).v (fB fs n)
def fnode (fs : List Nd) (n : Nd) : Nd := if (decide (0 < (parts n).length) && fall fs (parts n)) = true then ⟨constB, 0, 0, fval fs n⟩ else n
/-- The model: each node put in its own place. -/
def fo (es : List Nd) : Nat → List Nd
  | 0 => es
  | k + 1 => (fo es k).set k (fnode (fo es k) (es.getD k zeroNd))
/-- The program: a list of its own. -/
def fp (es : List Nd) : Nat → List Nd
  | 0 => List.replicate es.length zeroNd
  | k + 1 => (fp es k).set k (fnode (fp es k) (es.getD k zeroNd))
theorem fo_len (es : List Nd) (k : Nat) : (fo es k).length = es.length := by
  induction k with
  | zero => rfl
  | succ k ih => rw [fo, List.length_set, ih]
theorem fp_len (es : List Nd) (k : Nat) : (fp es k).length = es.length := by
  induction k with
  | zero => simp [fp]
  | succ k ih => rw [fp, List.length_set, ih]
theorem fo_rest (es : List Nd) {k i : Nat} (h : k ≤ i) : (fo es k)[i]? = es[i]? := by
  induction k with
  | zero => rfl
  | succ k ih => rw [fo, List.getElem?_set_ne (by omega), ih (by omega)]
theorem fp_rest (es : List Nd) {k i : Nat} (h : k ≤ i) : (fp es k)[i]? = (List.replicate es.length zeroNd)[i]? := by
  induction k with
  | zero => rfl
  | succ k ih => rw [fp, List.getElem?_set_ne (by omega), ih (by omega)]
theorem parts_in {n : Nd} {k : Nat} (h : isNode n k = true) : ∀ p ∈ parts n, 0 ≤ p ∧ p.toNat < k := by
  intro p hp
  have := isNode_parts h p hp
  omega
theorem nd_v {n : Nd} {i : Int} (h : isNode n i = true) : 0 ≤ n.v ∧ n.v ≤ 63 := by
  unfold isNode at h
  split at h
  · simp only [Bool.and_eq_true] at h; have := (inR_iff _ _ _).1 h.2; omega
  · split at h
    · simp only [Bool.and_eq_true] at h; have := h.2; unfold isW at this; have := (inR_iff _ _ _).1 this; omega
    · split at h
      · simp only [Bool.and_eq_true, beq_iff_eq] at h; omega
      · simp only [Bool.and_eq_true, beq_iff_eq] at h; omega
theorem parts_two {n : Nd} {k : Nat} (h : isNode n k = true) : ((parts n) = [] ∧ ar n.op = 0) ∨ (parts n = [n.a] ∧ isOne n.op = true ∧ 0 ≤ n.a ∧ n.a.toNat < k ∧ n.b = 0) ∨ (parts n = [n.a, n.b] ∧ isOne n.op = false ∧ isTwo n.op = true ∧ 0 ≤ n.a ∧ n.a.toNat < k ∧ 0 ≤ n.b ∧ n.b.toNat < k) := by
  rcases ar_cases_nd h with ⟨h1, h2, h3, _⟩ | ⟨_, h2, h3, h4, h5, h6⟩ | ⟨_, h2, h3, h4, h5, h6, h7⟩
  · left; exact ⟨by simp [parts, h2, h3], h1⟩
  · right; left; exact ⟨by simp [parts, h2], h2, h4, by omega, h6⟩
  · right; right; exact ⟨by simp [parts, h2, h3], h2, h3, h4, by omega, h6, by omega⟩
theorem fnode_ext {n : Nd} {k : Nat} {fs gs : List Nd} (h : isNode n k = true) (he : ∀ i, i < k → fs[i]? = gs[i]?) : fnode fs n = fnode gs n := by
  have hd : ∀ i, i < k → fs.getD i zeroNd = gs.getD i zeroNd := fun i hi => by rw [List.getD_eq_getElem?_getD, List.getD_eq_getElem?_getD, he i hi]
  unfold fnode fall fval fB
  rcases parts_two h with ⟨h1, _⟩ | ⟨h1, _, h2, h3, _⟩ | ⟨h1, _, _, h2, h3, h4, h5⟩
  · simp [h1]
  · simp only [h1, List.all_cons, List.all_nil, List.length_cons, List.length_nil]
    rw [hd _ h3]; simp
  · simp only [h1, List.all_cons, List.all_nil, List.length_cons, List.length_nil]
    rw [hd _ h3, hd _ h5]
theorem fp_fo {es : List Nd} (hok : okFrom es 0 = true) {k : Nat} (hk : k ≤ es.length) : ∀ i, i < k → (fp es k)[i]? = (fo es k)[i]? := by
  induction k with
  | zero => intro i hi; omega
  | succ k ih =>
    intro i hi
    have ih := ih (by omega)
    have hg : es.getD k zeroNd = es[k]'(by omega) := by rw [List.getD_eq_getElem?_getD, List.getElem?_eq_getElem (by omega)]; rfl
    rw [fp, fo]
    rw [fnode_ext (k := k) (fs := fp es k) (gs := fo es k) (by rw [hg]; exact ok_get hok (by omega)) ih]
    rw [List.getElem?_set, List.getElem?_set, fp_len, fo_len]
    split
    · rfl
    · exact ih i (by omega)
theorem fp_all {es : List Nd} (hok : okFrom es 0 = true) : fp es es.length = fo es es.length := by
  apply List.ext_getElem?
  intro i
  rcases Nat.lt_or_ge i es.length with h | h
  · exact fp_fo hok (Nat.le_refl _) i h
  · rw [List.getElem?_eq_none (by rw [fp_len]; exact h), List.getElem?_eq_none (by rw [fo_len]; exact h)]
theorem okFrom_all : ∀ (es : List Nd) (i : Int), (∀ k (h : k < es.length), isNode es[k] (i + k) = true) → okFrom es i = true
  | [], _, _ => rfl
  | n :: t, i, h => by
    rw [okFrom, Bool.and_eq_true]
    refine ⟨by have := h 0 (by simp); simpa using this, okFrom_all t (i + 1) fun k hk => ?_⟩
    have := h (k + 1) (by simp; omega)
    simp only [List.getElem_cons_succ] at this
    rw [show i + 1 + (k : Int) = i + ((k + 1 : Nat) : Int) by omega]; exact this
theorem isNode_const {x : Int} (i : Int) (h0 : 0 ≤ x) (h1 : x ≤ 63) : isNode ⟨constB, 0, 0, x⟩ i = true := by
  unfold isNode
  rw [if_neg (show ¬ isIn constB = true by decide +kernel), if_pos (show isConst constB = true by decide +kernel)]
  simp [isW, h0, h1]
theorem getD_v {fs : List Nd} (h : ∀ n ∈ fs, 0 ≤ n.v ∧ n.v ≤ 63) (i : Nat) : 0 ≤ (fs.getD i zeroNd).v ∧ (fs.getD i zeroNd).v ≤ 63 := by
  rw [List.getD_eq_getElem?_getD]
  rcases Nat.lt_or_ge i fs.length with hl | hl
  · rw [List.getElem?_eq_getElem hl]; exact h _ (List.getElem_mem hl)
  · rw [List.getElem?_eq_none hl]; decide
theorem fval_bd {fs : List Nd} {n : Nd} (h : ∀ n ∈ fs, 0 ≤ n.v ∧ n.v ≤ 63) : 0 ≤ fval fs n ∧ fval fs n ≤ 63 := by
  have ha := getD_v h n.a.toNat
  have hb := getD_v h n.b.toNat
  unfold fval
  have : 0 ≤ fB fs n ∧ fB fs n ≤ 63 := by unfold fB; split <;> omega
  exact ap_bd _ _ _ ha.1 ha.2 this.1 this.2
theorem fnode_isNode {fs : List Nd} {n : Nd} {i : Int} (hn : isNode n i = true) (h : ∀ n ∈ fs, 0 ≤ n.v ∧ n.v ≤ 63) : isNode (fnode fs n) i = true := by
  unfold fnode; split
  · exact isNode_const i (fval_bd h).1 (fval_bd h).2
  · exact hn
theorem fo_ok {es : List Nd} (hok : okFrom es 0 = true) {k : Nat} (hk : k ≤ es.length) : okFrom (fo es k) 0 = true := by
  induction k with
  | zero => exact hok
  | succ k ih =>
    have ih := ih (by omega)
    have hv : ∀ n ∈ fo es k, 0 ≤ n.v ∧ n.v ≤ 63 := by
      intro n hn
      obtain ⟨j, hj, rfl⟩ := List.getElem_of_mem hn
      exact nd_v (ok_get ih hj)
    apply okFrom_all
    intro j hj
    rw [Int.zero_add]
    simp only [fo] at hj ⊢
    rw [List.getElem_set]
    split
    · rename_i e; subst e
      have hg : es.getD k zeroNd = es[k]'(by omega) := by rw [List.getD_eq_getElem?_getD, List.getElem?_eq_getElem (by omega)]; rfl
      rw [hg]; exact fnode_isNode (ok_get hok (by omega)) hv
    · exact ok_get ih (by simpa using hj)
theorem fo_v {es : List Nd} (hok : okFrom es 0 = true) {k : Nat} (hk : k ≤ es.length) : ∀ n ∈ fo es k, 0 ≤ n.v ∧ n.v ≤ 63 := by
  intro n hn
  obtain ⟨j, hj, rfl⟩ := List.getElem_of_mem hn
  exact nd_v (ok_get (fo_ok hok hk) hj)
theorem fp_v {es : List Nd} (hok : okFrom es 0 = true) {k : Nat} (hk : k ≤ es.length) : ∀ n ∈ fp es k, 0 ≤ n.v ∧ n.v ≤ 63 := by
  intro n hn
  obtain ⟨j, hj, rfl⟩ := List.getElem_of_mem hn
  rw [fp_len] at hj
  rcases Nat.lt_or_ge j k with h | h
  · have h1 := fp_fo hok hk j h
    rw [List.getElem?_eq_getElem (by rw [fp_len]; exact hj), List.getElem?_eq_getElem (by rw [fo_len]; exact hj)] at h1
    injection h1 with h1
    rw [h1]; exact fo_v hok hk _ (List.getElem_mem _)
  · have h1 := fp_rest es (i := j) h
    rw [List.getElem?_eq_getElem (by rw [fp_len]; exact hj), List.getElem?_eq_getElem (by simp; exact hj)] at h1
    injection h1 with h1
    rw [h1]; simp [zeroNd]
def foldOf (es : List Nd) : List Nd := fo es es.length
def foldR (es : List Nd) : List Nd := if good es = true then keepL (foldOf es) (es.length - 1) else []
theorem foldR_len (es : List Nd) : (foldR es).length ≤ 1048576 := by
  unfold foldR; split
  · rename_i h
    have := (good_len h).2.1
    have := ke_len (foldOf es) (need (foldOf es) (es.length - 1)) (es.length - 1 + 1) (es.length - 1 + 1)
    unfold keepL; omega
  · simp
theorem fnode_no {fs : List Nd} {n : Nd} (h : (decide (0 < (parts n).length) && fall fs (parts n)) = false) : fnode fs n = n := by unfold fnode; rw [h]; rfl
theorem fnode_yes {fs : List Nd} {n : Nd} (h : (decide (0 < (parts n).length) && fall fs (parts n)) = true) : fnode fs n = ⟨constB, 0, 0, fval fs n⟩ := by unfold fnode; rw [h]; rfl
theorem fall_take {fs : List Nd} {ps : List Int} {j : Nat} (hj : j < ps.length) : fall fs (ps.take (j + 1)) = (fall fs (ps.take j) && isConst (fs.getD (ps[j]).toNat zeroNd).op) := by
  unfold fall; rw [List.take_succ_eq_append_getElem hj, List.all_append]; simp
theorem fall_pre {fs : List Nd} {ps : List Int} {j : Nat} (h : fall fs (ps.take j) = false) : fall fs ps = false := by
  cases hx : fall fs ps
  · rfl
  · exfalso
    unfold fall at h hx
    rw [List.all_eq_true] at hx
    have : (ps.take j).all (fun p => isConst (fs.getD p.toNat zeroNd).op) = true := List.all_eq_true.2 fun p hp => hx p (List.mem_of_mem_take hp)
    rw [this] at h; cases h
end Go.Proofs.Ytieljgfocgdngaa

/- A tree in the order of its walk: an expression that is no tree grows as it is expanded. No program. -/
namespace Go.Proofs.Ytieljgfocgdngaa
open Go.RowKit
set_option linter.unusedVariables false

/-! ### Sums -/
def nsum (g : Nat → Int) : Nat → Int
  | 0 => 0
  | k + 1 => nsum g k + g k
theorem nsum_congr {g h : Nat → Int} : ∀ n, (∀ k, k < n → g k = h k) → nsum g n = nsum h n := by
  intro n
  induction n with
  | zero => intro _; rfl
  | succ n ih => intro he; rw [nsum, nsum, ih (fun k hk => he k (by omega)), he n (by omega)]
theorem nsum_zero (n : Nat) : nsum (fun _ => 0) n = 0 := by
  induction n with
  | zero => rfl
  | succ n ih => rw [nsum, ih]; rfl
theorem nsum_sub (g h : Nat → Int) (n : Nat) : nsum (fun k => g k - h k) n = nsum g n - nsum h n := by
  induction n with
  | zero => rfl
  | succ n ih => simp only [nsum]; rw [ih]; omega
theorem nsum_one (n : Nat) : nsum (fun _ => 1) n = (n : Int) := by
  induction n with
  | zero => rfl
  | succ n ih => rw [nsum, ih]; omega
theorem nsum_nonneg {g : Nat → Int} : ∀ n, (∀ k, k < n → 0 ≤ g k) → 0 ≤ nsum g n := by
  intro n
  induction n with
  | zero => intro _; exact Int.le_refl _
  | succ n ih => intro h; have h1 := ih (fun k hk => h k (by omega)); have h2 := h n (by omega); simp only [nsum]; omega
theorem nsum_pos {g : Nat → Int} : ∀ n, (∀ k, k < n → 0 ≤ g k) → (∃ k, k < n ∧ 1 ≤ g k) → 1 ≤ nsum g n := by
  intro n
  induction n with
  | zero => rintro _ ⟨k, hk, _⟩; omega
  | succ n ih =>
    rintro h ⟨k, hk, h1⟩
    have h3 := h n (by omega)
    have h4 := nsum_nonneg n (fun k hk => h k (by omega))
    simp only [nsum]
    by_cases hkn : k = n
    · subst hkn; omega
    · have := ih (fun k hk => h k (by omega)) ⟨k, by omega, h1⟩; omega
theorem getD_bump (u : List Int) (p : Int) (k : Nat) (hp : p.toNat < u.length) : (bump u p).getD k 0 = if k = p.toNat then u.getD k 0 + 1 else u.getD k 0 := by
  unfold bump
  rw [List.getD_eq_getElem?_getD, List.getD_eq_getElem?_getD, List.getD_eq_getElem?_getD, List.getElem?_set]
  by_cases h : p.toNat = k
  · subst h; simp [hp]
  · rw [if_neg h, if_neg (Ne.symm h)]
theorem nsum_bump (f : Nat → Int) (u : List Int) (p : Int) (hp : p.toNat < u.length) : ∀ n, nsum (fun k => f k * (bump u p).getD k 0) n = nsum (fun k => f k * u.getD k 0) n + (if p.toNat < n then f p.toNat else 0) := by
  intro n
  induction n with
  | zero => simp [nsum]
  | succ n ih =>
    simp only [nsum]
    rw [ih, getD_bump u p n hp]
    by_cases h : n = p.toNat
    · subst h
      rw [if_pos rfl, if_neg (by omega), if_pos (by omega), Int.mul_add, Int.mul_one]; omega
    · rw [if_neg h]
      by_cases h2 : p.toNat < n
      · rw [if_pos h2, if_pos (by omega)]; omega
      · rw [if_neg h2, if_neg (by omega)]; omega
def psum (f : Nat → Int) (ps : List Int) : Int := (ps.map fun p => f p.toNat).sum
theorem nsum_foldl (f : Nat → Int) (n : Nat) : ∀ (ps : List Int) (u : List Int), u.length = n → (∀ p ∈ ps, p.toNat < n) → nsum (fun k => f k * (ps.foldl bump u).getD k 0) n = nsum (fun k => f k * u.getD k 0) n + psum f ps := by
  intro ps
  induction ps with
  | nil => intro u _ _; simp [psum]
  | cons p ps ih =>
    intro u hu h
    rw [List.foldl_cons, ih (bump u p) (by rw [length_bump, hu]) (fun q hq => h q (by simp [hq])), nsum_bump f u p (by rw [hu]; exact h p (by simp)), if_pos (h p (by simp))]
    simp only [psum, List.map_cons, List.sum_cons]; omega
theorem nsum_uses (f : Nat → Int) {es : List Nd} (hp : ∀ k (h : k < es.length), ∀ p ∈ parts es[k], p.toNat < es.length) : ∀ m, m ≤ es.length → nsum (fun k => f k * (usesAt es m).getD k 0) es.length = nsum (fun i => psum f (parts (es.getD i zeroNd))) m := by
  intro m
  induction m with
  | zero =>
    intro _
    rw [usesAt_zero]
    have : ∀ k, (List.replicate es.length (0 : Int)).getD k 0 = 0 := fun k => by
      rw [List.getD_eq_getElem?_getD, List.getElem?_replicate]; split <;> rfl
    rw [nsum_congr es.length (h := fun _ => 0) (fun k _ => by rw [this]; simp), nsum_zero]; rfl
  | succ m ih =>
    intro hm
    rw [usesAt_succ (by omega), nsum_foldl f es.length _ _ (usesAt_len es m) (hp m (by omega)), ih (by omega), nsum, getD_nd (by omega)]

/-! ### The size of what a node grows to -/
def ts (es : List Nd) : Nat → Nat → Int
  | 0, _ => 0
  | F + 1, i => 1 + psum (ts es F) (parts (es.getD i zeroNd))
theorem parts_ar {n : Nd} : (ar n.op = 1 → isOne n.op = true → parts n = [n.a]) ∧ (isOne n.op = false → isTwo n.op = true → parts n = [n.a, n.b]) ∧ (isOne n.op = false → isTwo n.op = false → parts n = []) := by
  refine ⟨fun _ h => by simp [parts, h], fun h1 h2 => by simp [parts, h1, h2], fun h1 h2 => by simp [parts, h1, h2]⟩
theorem tr_ts {es : List Nd} (hok : okFrom es 0 = true) : ∀ (F o i : Nat), i < F → i < es.length → ((tr es F o i).length : Int) = ts es F i := by
  intro F
  induction F with
  | zero => intro o i h; omega
  | succ F ih =>
    intro o i hi hie
    have hnd := ok_get hok hie
    unfold tr ts; simp only []; rw [getD_nd hie]
    generalize es[i] = n at *
    rcases ar_cases_nd hnd with ⟨h1, h2, h3, -, -⟩ | ⟨h1, h2, h3, ha, ha', -⟩ | ⟨h1, h2, h3, ha, ha', hb, hb'⟩
    · rw [if_neg (by omega), if_neg (by omega), parts_ar.2.2 h2 h3]; simp [psum]
    · rw [if_pos h1, parts_ar.1 h1 h2]
      have e := ih o n.a.toNat (by omega) (by omega)
      simp only [psum, List.map_cons, List.map_nil, List.sum_cons, List.sum_nil, List.length_append, List.length_cons, List.length_nil]
      omega
    · rw [if_neg (by omega), if_pos h1, parts_ar.2.1 h2 h3]
      have e1 := ih o n.a.toNat (by omega) (by omega)
      have e2 := ih (o + (tr es F o n.a.toNat).length) n.b.toNat (by omega) (by omega)
      simp only [psum, List.map_cons, List.map_nil, List.sum_cons, List.sum_nil, List.length_append, List.length_cons, List.length_nil]
      omega
theorem psum_congr {f g : Nat → Int} {ps : List Int} (h : ∀ p ∈ ps, f p.toNat = g p.toNat) : psum f ps = psum g ps := by
  unfold psum; rw [List.map_congr_left h]
theorem ts_fuel {es : List Nd} (hok : okFrom es 0 = true) : ∀ (F G i : Nat), i < F → i < G → i < es.length → ts es F i = ts es G i := by
  intro F
  induction F with
  | zero => intro G i h; omega
  | succ F ih =>
    intro G i hi hg hie
    cases G with
    | zero => omega
    | succ G =>
      unfold ts
      rw [getD_nd hie]
      congr 1
      refine psum_congr fun p hp => ?_
      have h9 := (parts_in (ok_get hok hie) p hp).2
      exact ih G p.toNat (by omega) (by omega) (by omega)
theorem ts_pos (es : List Nd) (hok : okFrom es 0 = true) : ∀ (F i : Nat), i < F → i < es.length → 1 ≤ ts es F i := by
  intro F
  induction F with
  | zero => intro i h; omega
  | succ F ih =>
    intro i hi hie
    unfold ts
    rw [getD_nd hie]
    have : ∀ ps : List Int, (∀ p ∈ ps, p.toNat < F ∧ p.toNat < es.length) → 0 ≤ psum (ts es F) ps := by
      intro ps
      induction ps with
      | nil => intro _; exact Int.le_refl _
      | cons p ps ih2 =>
        intro h
        have h1 := ih p.toNat (h p (by simp)).1 (h p (by simp)).2
        have h2 := ih2 (fun q hq => h q (by simp [hq]))
        simp only [psum, List.map_cons, List.sum_cons] at *
        omega
    have := this (parts es[i]) (fun p hp => by have h9 := (parts_in (ok_get hok hie) p hp).2; exact ⟨by omega, by omega⟩)
    omega
theorem tree_size {es : List Nd} (hg : good es = true) : (tree es = true → (expandL es).length = es.length) ∧ (tree es = false → es.length < (expandL es).length) := by
  obtain ⟨hl1, hl24, hok⟩ := good_len hg
  obtain ⟨m, hm⟩ : ∃ m, es.length = m + 1 := ⟨es.length - 1, by omega⟩
  have hE : ((expandL es).length : Int) = ts es es.length m := by
    have := tr_ts hok es.length 0 (es.length - 1) (by omega) (by omega)
    rw [show es.length - 1 = m by omega] at this
    unfold expandL; rw [show es.length - 1 = m by omega]; exact this
  have hp : ∀ k (h : k < es.length), ∀ p ∈ parts es[k], p.toNat < es.length := fun k h p hp => by have := (parts_in (ok_get hok h) p hp).2; omega
  have hpm : ∀ k (h : k < es.length), ∀ p ∈ parts es[k], p.toNat < m := fun k h p hp => by have := (parts_in (ok_get hok h) p hp).2; omega
  have hU := fun f => nsum_uses f hp es.length (Nat.le_refl _)
  have hlen : (uses es).length = m + 1 := by rw [← hm]; exact usesAt_len _ _
  have hBd : ∀ k, 0 ≤ (uses es).getD k 0 := fun k => (usesAt_Bd (Nat.le_refl es.length) k).1
  have hge : ∀ k, k < m → 1 ≤ (uses es).getD k 0 := by
    intro k hk
    have h0 := hBd k
    have hne : (uses es).getD k 0 ≠ 0 := by
      intro e
      have hh : hasI ((uses es).take (es.length - 1)) 0 = false := by
        simp only [good, Bool.and_eq_true, Bool.not_eq_true'] at hg; exact hg.2
      unfold hasI at hh
      rw [List.any_eq_false] at hh
      have hmem : (uses es).getD k 0 ∈ (uses es).take (es.length - 1) := by
        rw [List.getD_eq_getElem?_getD, List.getElem?_eq_getElem (by omega), Option.getD_some, List.mem_take_iff_getElem]
        exact ⟨k, by omega, rfl⟩
      have := hh _ hmem
      rw [e] at this; simp at this
    omega
  have hroot : (uses es).getD m 0 = 0 := by
    have h := hU (fun k => if k = m then 1 else 0)
    rw [hm, nsum] at h
    have h1 : nsum (fun k => (if k = m then (1 : Int) else 0) * (usesAt es (m + 1)).getD k 0) m = 0 := by
      rw [nsum_congr m (h := fun _ => 0) (fun k hk => by rw [if_neg (by omega)]; simp), nsum_zero]
    have h2 : nsum (fun i => psum (fun k => if k = m then (1 : Int) else 0) (parts (es.getD i zeroNd))) (m + 1) = 0 := by
      rw [nsum_congr (m + 1) (h := fun _ => 0) (fun k hk => ?_), nsum_zero]
      rw [getD_nd (by omega), psum_congr (g := fun _ => 0) (fun p hp' => by have := hpm k (by omega) p hp'; rw [if_neg (by omega)])]
      unfold psum
      generalize parts es[k] = ps
      induction ps with
      | nil => rfl
      | cons p ps ih => simp only [List.map_cons, List.sum_cons] at ih ⊢; omega
    rw [h1, h2] at h
    simp only [if_pos] at h
    unfold uses; rw [hm]; omega
  have hmain : nsum (fun k => ts es es.length k * ((uses es).getD k 0 - 1)) m = ts es es.length m - (m + 1) := by
    obtain ⟨T, hT⟩ : ∃ T, T = ts es es.length := ⟨_, rfl⟩
    have hTk : ∀ k, T k = ts es es.length k := fun k => by rw [hT]
    rw [← hT]
    have h := hU (fun k => if k < m then T k else 0)
    rw [hm, nsum] at h
    rw [nsum_congr m (h := fun k => T k * (usesAt es (m + 1)).getD k 0) (fun k hk => by rw [if_pos hk]), if_neg (by omega)] at h
    have h2 : nsum (fun i => psum (fun k => if k < m then T k else 0) (parts (es.getD i zeroNd))) (m + 1) = nsum (fun i => T i - 1) (m + 1) := by
      refine nsum_congr _ fun i hi => ?_
      have hie : i < es.length := by omega
      rw [hTk i, ts_fuel hok es.length (i + 1) i hie (by omega) hie, ts, getD_nd hie]
      rw [psum_congr (g := ts es i) (fun p hp' => ?_)]
      · omega
      · have h9 := hpm i hie p hp'
        have h8 := (parts_in (ok_get hok hie) p hp').2
        rw [if_pos h9, hTk]; exact ts_fuel hok _ _ _ (by omega) h8 (by omega)
    rw [h2, nsum_sub, nsum_one, nsum] at h
    have h3 : nsum (fun k => T k * ((uses es).getD k 0 - 1)) m = nsum (fun k => T k * (usesAt es (m + 1)).getD k 0) m - nsum T m := by
      rw [← nsum_sub]
      refine nsum_congr m fun k hk => ?_
      unfold uses; rw [hm, Int.mul_sub, Int.mul_one]
    rw [h3]; omega
  have hts : ∀ k, k < m → 1 ≤ ts es es.length k := fun k hk => ts_pos es hok es.length k (by omega) (by omega)
  constructor
  · intro ht
    have hall : ∀ k, k < m → (uses es).getD k 0 = 1 := by
      intro k hk
      unfold tree allR at ht
      rw [List.all_eq_true] at ht
      have hmem : (uses es).getD k 0 ∈ uses es := by
        rw [List.getD_eq_getElem?_getD, List.getElem?_eq_getElem (by omega), Option.getD_some]; exact List.getElem_mem _
      have h1 := (inR_iff _ _ _).1 (ht _ hmem)
      have := hge k hk; omega
    have h0 : nsum (fun k => ts es es.length k * ((uses es).getD k 0 - 1)) m = 0 := by
      rw [nsum_congr m (h := fun _ => 0) (fun k hk => by rw [hall k hk]; simp), nsum_zero]
    rw [h0] at hmain; omega
  · intro ht
    unfold tree allR at ht
    rw [List.all_eq_false] at ht
    obtain ⟨x, hx, hb⟩ := ht
    obtain ⟨k, hk, rfl⟩ := List.getElem_of_mem hx
    have hgk : (uses es).getD k 0 = (uses es)[k] := by rw [List.getD_eq_getElem?_getD, List.getElem?_eq_getElem hk]; rfl
    have h0 := hBd k
    rw [hgk] at h0
    have h1 : 1 < (uses es)[k] := by
      rcases Int.lt_or_le 1 (uses es)[k] with h | h
      · exact h
      · exact absurd ((inR_iff _ 0 1).2 ⟨h0, h⟩) hb
    have hkm : k < m := by
      rcases Nat.lt_or_ge k m with h | h
      · exact h
      · have : k = m := by omega
        subst this; rw [hroot] at hgk; omega
    have hpos : 1 ≤ nsum (fun k => ts es es.length k * ((uses es).getD k 0 - 1)) m := by
      refine nsum_pos m (fun j hj => ?_) ⟨k, hkm, ?_⟩
      · have a := hts j hj; have b := hge j hj
        exact Int.mul_nonneg (by omega) (by omega)
      · rw [hgk]
        have a := hts k hkm
        have : 1 * 1 ≤ ts es es.length k * ((uses es)[k] - 1) := Int.mul_le_mul a (by omega) (by omega) (by omega)
        omega
    rw [hmain] at hpos; omega

/-- An expression that is a tree in the order of the walk of its root. -/
def sameN (x y : Nd) : Bool := x.op.toList == y.op.toList && x.a == y.a && x.b == y.b && x.v == y.v
def sameL (xs ys : List Nd) : Bool := decide (xs.length = ys.length) && (List.range xs.length).all fun k => sameN (xs.getD k zeroNd) (ys.getD k zeroNd)
def walked (es : List Nd) : Bool := expandOk es && sameL (expandL es) es
theorem walked_tree {es : List Nd} (hg : good es = true) : walked es = (tree es && sameL (expandL es) es) := by
  obtain ⟨h1, h2⟩ := tree_size hg
  obtain ⟨hl1, hl24, hok⟩ := good_len hg
  unfold walked expandOk
  cases ht : tree es
  · have := h2 ht
    have : sameL (expandL es) es = false := by unfold sameL; rw [decide_eq_false (by omega)]; rfl
    rw [this]; simp
  · rw [h1 ht, hg, decide_eq_true hl24]; rfl
theorem walked_good {es : List Nd} (h : walked es = true) : good es = true := by
  unfold walked expandOk at h; simp only [Bool.and_eq_true] at h; exact h.1.1
end Go.Proofs.Ytieljgfocgdngaa
