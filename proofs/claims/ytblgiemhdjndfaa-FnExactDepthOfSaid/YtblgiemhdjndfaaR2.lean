import Derived.Test.YtblgiemhdjndfaaR
import Derived.Test.YtblgiemhdjndfaaG
import Derived.WalkKit
import Derived.WalkSpells
import Derived.WalkLawsBesides
import Derived.Deep.RegionLaw
import Derived.Deep.QuietTactic
import Derived.BigQuiet
import Derived.BigRegion
import Derived.Lib.Hide
namespace Go.Proofs.Ytblgiemhdjndfaa
open Go.RowKit
set_option linter.unusedVariables false

set_option maxRecDepth 100000 in
set_option maxHeartbeats 8000000 in
theorem iDepthOf_any (L B : Nat) (A : Option Addr) (c : Nat) (es : List Nd) (w : World) (hl : es.length ≤ 1048576) (hes : NS w L B A es) (hB : B ≤ w.heap.size) :
    Calls Try.prog 37 #[.slice A es.length c] w fun e w' => e = .returned (.tuple #[.int .i64 (depR es), .bool (good es)]) ∧ Below w.heap.size w w' := by
  have H := Lib.hid (IsExpr_any L B A c es w hl hes hB)
  have hE := Lib.hid hes
  have hBB := Lib.hid hB
  clear hes hB
  cases hg : good es
  · have hR2 : Hid (depR es = 0) := by simp [Hid, depR, hg]
    go_enter Try.func37, Try.ntmps37
    go_wp2_with (fail)
    refine H.out.mono ?_
    rintro e w2 ⟨rfl, hb⟩
    have hbb := Lib.hid hb
    clear hb
    go_wp2_with (fail)
    go_ret2
    exact ⟨by rw [hR2.out]; rfl, hbb.out⟩
  have hR2 : Hid (depR es = (depAt es es.length).getD (es.length - 1) 0) := by simp [Hid, depR, hg]
  obtain ⟨hl1, hl24, hok⟩ := good_len hg
  have hP := Lib.hid (ok_parts hok)
  have hmk := run_make_ints es.length (by omega)
  clear hok
  go_enter Try.func37, Try.ntmps37
  go_wp2_with (fail)
  refine H.out.mono ?_
  rintro e w2 ⟨rfl, hb⟩
  have hbb := Lib.hid hb
  have hsz := hb.size
  clear hb
  have hU0 : Hid (IB (w2.alloc (.cells (intCells (zeros es.length)) 3)) w2.heap.size 3 (depAt es 0)) := heap_alloc_new w2 _
  have hBel0 := Lib.hid ((Below.refl w2.heap.size w2).alloc (Nat.le_refl _) (.cells (intCells (zeros es.length)) 3))
  have hE2 : Hid (NS w2 L B A es) := hE.out.below hbb.out hBB.out
  have hB2 : B ≤ w2.heap.size := Nat.le_trans hBB.out hsz
  go_wp2
  go_loopw [17] (fun i wr => ∃ k : Nat, k ≤ es.length ∧ i = .int .i64 k ∧ IB wr w2.heap.size 3 (depAt es k) ∧ Below w2.heap.size w2 wr) (fun i _ => es.length - (intOf i).toNat)
  case atStart => exact ⟨0, Nat.zero_le _, rfl, hU0.out, hBel0.out⟩
  case round =>
    obtain ⟨k, hk, rfl, hib, hbel⟩ := hrel
    have hIB := Lib.hid hib
    have hglt := hib.lt
    clear hib hmk hBel0 hU0
    by_cases hlt : k < es.length
    · obtain ⟨b, o, rfl, ⟨_, hbB⟩, hc⟩ := (hE2.out.below hbel hB2) (by omega)
      obtain ⟨c1, c2, c3, c4⟩ := hc k hlt
      clear hc
      have hPk : Hid (∀ p ∈ parts es[k], 0 ≤ p ∧ p < es.length) := hP.out _ (List.getElem_mem hlt)
      have hSk := Lib.hid (depAt_succ hlt)
      have hBd := Lib.hid (depAt_Bd (es := es) (k := k) hk)
      have hLen := Lib.hid (depAt_len es k)
      have hp2 := parts_len es[k]
      clear hP
      generalize hnd : es[k] = nd at *
      obtain ⟨s, a, bb, v⟩ := nd
      clear hnd
      go_wp2_with (fail)
      refine (operandsOf_any _ _ _ _ _).mono ?_
      rintro e w3 ⟨A2, cc, rfl, hIS, hb2⟩
      have hI2 := Lib.hid hIS
      have hbel2 : Below w2.heap.size w2 w3 := hbel.trans (((Below.refl _ _).alloc hbel.size _).trans (hb2.mono (by simp; have := hbel.size; omega)))
      have hIB2 : Hid (IB w3 w2.heap.size 3 (depAt es k)) := (show IB _ _ _ _ from hIB.out).below ((Below.refl wr.heap.size wr).alloc (Nat.le_refl _) _ |>.trans (hb2.mono (by simp))) hglt
      have hsz2 := hb2.size
      simp at hsz2
      clear hIS hb2 hIB c1 c2 c3 c4 hbel
      generalize hps : parts ⟨s, a, bb, v⟩ = ps at *
      clear hps
      go_wp2_with (fail)
      go_loopw [25] (fun i wi => ∃ j : Nat, j ≤ ps.length ∧ i = .int .i64 j ∧ IB wi w2.heap.size 3 ((ps.take j).foldl (dstep k) (depAt es k)) ∧ Below w2.heap.size w2 wi ∧ IS wi (w2.heap.size + 1) wi.heap.size A2 ps) (fun i _ => ps.length - (intOf i).toNat)
      case atStart =>
        refine ⟨0, Nat.zero_le _, rfl, hIB2.out, hbel2, hI2.out.more ?_ (Nat.le_refl _)⟩
        simp; omega
      case round =>
        obtain ⟨j, hj, rfl, hib, hbel3, his⟩ := hrel
        have hIB3 := Lib.hid hib
        have hIS3 := Lib.hid his
        have hBel3 := Lib.hid hbel3
        clear hib his hbel3
        by_cases hjt : j < ps.length
        · obtain ⟨b2, o2, rfl, hbb2, hc⟩ := hIS3.out (by omega)
          have hcj := hc j hjt
          obtain ⟨hq0, hq1⟩ := hPk.out _ (List.getElem_mem hjt)
          obtain ⟨q, hq⟩ := Int.eq_ofNat_of_zero_le hq0
          have hql : q < es.length := by omega
          rw [hq] at hcj
          have hQ := Lib.hid hq
          clear hc hq hq0 hq1
          have hlen3 : ((ps.take j).foldl (dstep k) (depAt es k)).length = es.length := by rw [foldl_dstep_len]; exact hLen.out
          have hcu := hIB3.out.cell q (by rw [hlen3]; exact hql)
          have hck := hIB3.out.cell k (by rw [hlen3]; exact hlt)
          have hfk := hIB3.out.frozen k
          have hbd3 := (foldl_dstep_Bd k (ps.take j) hBd.out) q
          have hbd4 := (foldl_dstep_Bd k (ps.take j) hBd.out) k
          have hlj : (ps.take j).length ≤ 2 := by rw [List.length_take]; omega
          have hsnoc : (ps.take (j + 1)).foldl (dstep k) (depAt es k) = ((ps.take j).foldl (dstep k) (depAt es k)).set k (max (((ps.take j).foldl (dstep k) (depAt es k)).getD k 0) (((ps.take j).foldl (dstep k) (depAt es k)).getD q 0 + 1)) := by
            rw [List.take_succ_eq_append_getElem hjt, List.foldl_append, hQ.out]; rfl
          have hS3 := Lib.hid hsnoc
          generalize (ps.take j).foldl (dstep k) (depAt es k) = us at *
          have hcu' : wr.cell? ⟨w2.heap.size, q, none⟩ = some (.int .i64 (us.getD q 0)) := by
            rw [hcu, List.getD_eq_getElem?_getD, List.getElem?_eq_getElem (by omega)]; rfl
          have hck' : wr.cell? ⟨w2.heap.size, k, none⟩ = some (.int .i64 (us.getD k 0)) := by
            rw [hck, List.getD_eq_getElem?_getD, List.getElem?_eq_getElem (by omega)]; rfl
          clear hcu hck hsnoc hlen3
          generalize us.getD q 0 = x at *
          generalize us.getD k 0 = y at *
          obtain ⟨hx0, hx1⟩ := hbd3
          obtain ⟨hy0, hy1⟩ := hbd4
          have hx2 : x ≤ 1000 := by omega
          have hy2 : y ≤ 1000 := by omega
          clear hx1 hy1
          have hkeep : ∀ (z : Int) (p : Addr), p.block ≠ w2.heap.size → (wr.setCell ⟨w2.heap.size, k, none⟩ (.int .i64 z)).cell? p = wr.cell? p := fun z p hne => World.cell?_setCell_other wr _ p _ (fun e => by subst e; exact hne rfl)
          have hK := Lib.hid hkeep
          clear hkeep
          have i1 : (q : Int) < (es.length : Int) := by omega
          have i2 : (0 : Int) ≤ (q : Int) := by omega
          have i3 : (k : Int) < (es.length : Int) := by omega
          have i4 : (0 : Int) ≤ (k : Int) := by omega
          have i5 : IntKind.i64.wrap (x + 1) = x + 1 := by rw [IntKind.wrap_i64]; omega
          go_wp2_with (fail)
          go_region
          all_goals
            go_wp2
            go_roundw
            case rel =>
              have hmx : (if y < x + 1 then x + 1 else y) = max y (x + 1) := by split <;> omega
              simp only [hmx]
              refine ⟨j + 1, by omega, by go_num, ?_, (hBel3.out.setCell (Nat.le_refl _) _).drew, ?_⟩
              · rw [hS3.out]; exact hIB3.out.set k (max y (x + 1))
              · have := hIS3.out.keep (w' := wr.setCell ⟨w2.heap.size, k, none⟩ (.int .i64 (max y (x + 1)))) fun p hp _ => hK.out _ p (by omega)
                exact this.more (Nat.le_refl _) (by simp [World.setCell])
            case measure => simp [intOf]; omega
        · obtain rfl : j = ps.length := by omega
          go_wp2
          go_roundw
          case rel =>
            refine ⟨k + 1, by omega, by go_num, ?_, hBel3.out⟩
            have := hIB3.out
            rw [List.take_length] at this
            rw [hSk.out]; exact this
          case measure => simp [intOf]; omega
    · obtain rfl : k = es.length := by omega
      obtain ⟨m, hm⟩ : ∃ m, es.length = m + 1 := ⟨es.length - 1, by omega⟩
      have hlen := depAt_len es es.length
      have hR3 := hR2.out
      have hib := hIB.out
      clear hIB hR2
      generalize depAt es es.length = D at *
      have hcm := hib.cell m (by omega)
      have hRm : depR es = D[m]'(by omega) := by
        rw [hR3, List.getD_eq_getElem?_getD, show es.length - 1 = m by omega, List.getElem?_eq_getElem (by omega)]; rfl
      generalize D[m]'(by omega) = z at *
      have hRm := Lib.hid hRm
      have HB := Lib.hid (hbb.out.trans (hbel.mono hsz))
      clear hlen hR3 hib
      rw [hm]
      go_wp2
      go_ret2
      exact ⟨by rw [hRm.out]; rfl, HB.out⟩
end Go.Proofs.Ytblgiemhdjndfaa
