import Derived.Test.YtmhdijklindipaaD2
import Derived.Test.YtmhdijklindipaaM2
import Derived.Test.YtmhdijklindipaaLI
import Derived.WalkKit
import Derived.WalkSpells
import Derived.WalkLawsBesides
import Derived.Laws.MakeOwn
import Derived.Lib.Hide
namespace Go.Proofs.Ytmhdijklindipaa
open Go.RowKit
set_option linter.unusedVariables false

def UsesAre (w : World) (xs : List Int) (e : Ending) (w' : World) : Prop :=
  ∃ g, e = .returned (.slice (some ⟨g, 0, none⟩) xs.length xs.length) ∧ w.heap.size ≤ g ∧ IB w' g 3 xs ∧ Below w.heap.size w w'

set_option maxHeartbeats 4000000 in
theorem usesOf_any (L B : Nat) (A : Option Addr) (c : Nat) (es : List Nd) (w : World) (hl : es.length ≤ 24) (hes : NS w L B A es) (hB : B ≤ w.heap.size) (hp : ∀ n ∈ es, ∀ p ∈ parts n, 0 ≤ p ∧ p < es.length) :
    Calls Try.prog 124 #[.slice A es.length c] w (UsesAre w (uses es)) := by
  have hmk := run_make_ints es.length (by omega)
  have hU0 : Hid (IB (w.alloc (.cells (intCells (zeros es.length)) 3)) w.heap.size 3 (usesAt es 0)) := heap_alloc_new w _
  have hBel0 := (Below.refl w.heap.size w).alloc (Nat.le_refl _) (.cells (intCells (zeros es.length)) 3)
  have hE := Lib.hid hes
  have hP := Lib.hid hp
  clear hes hp
  go_enter Try.func124, Try.ntmps124
  go_wp2
  go_loopw [13] (fun i wr => ∃ k : Nat, k ≤ es.length ∧ i = .int .i64 k ∧ IB wr w.heap.size 3 (usesAt es k) ∧ Below w.heap.size w wr) (fun i _ => es.length - (intOf i).toNat)
  case atStart => exact ⟨0, Nat.zero_le _, rfl, hU0.out, hBel0⟩
  case round =>
    obtain ⟨k, hk, rfl, hib, hbel⟩ := hrel
    have hIB := Lib.hid hib
    have hglt := hib.lt
    clear hib hmk hBel0 hU0
    by_cases hlt : k < es.length
    · obtain ⟨b, o, rfl, ⟨_, hbB⟩, hc⟩ := (hE.out.below hbel hB) (by omega)
      obtain ⟨c1, c2, c3, c4⟩ := hc k hlt
      clear hc
      have hPk : Hid (∀ p ∈ parts es[k], 0 ≤ p ∧ p < es.length) := hP.out _ (List.getElem_mem hlt)
      have hSk := Lib.hid (usesAt_succ hlt)
      have hBd := Lib.hid (usesAt_Bd (es := es) (k := k) hk)
      have hLen := Lib.hid (usesAt_len es k)
      have hp2 := parts_len es[k]
      clear hP
      generalize hnd : es[k] = nd at *
      obtain ⟨s, a, bb, v⟩ := nd
      clear hnd
      go_wp2_with (fail)
      refine (operandsOf_any _ _ _ _ _).mono ?_
      rintro e w2 ⟨A2, cc, rfl, hIS, hb2⟩
      have hI2 := Lib.hid hIS
      have hbel2 : Below w.heap.size w w2 := hbel.trans (((Below.refl _ _).alloc hbel.size _).trans (hb2.mono (by simp; have := hbel.size; omega)))
      have hIB2 : Hid (IB w2 w.heap.size 3 (usesAt es k)) := (show IB _ _ _ _ from hIB.out).below ((Below.refl wr.heap.size wr).alloc (Nat.le_refl _) _ |>.trans (hb2.mono (by simp))) hglt
      have hsz2 := hb2.size
      simp at hsz2
      clear hIS hb2 hIB c1 c2 c3 c4 hbel
      generalize hps : parts ⟨s, a, bb, v⟩ = ps at *
      clear hps
      go_wp2_with (fail)
      go_loopw [20] (fun i wi => ∃ j : Nat, j ≤ ps.length ∧ i = .int .i64 j ∧ IB wi w.heap.size 3 ((ps.take j).foldl bump (usesAt es k)) ∧ Below w.heap.size w wi ∧ IS wi (w.heap.size + 1) wi.heap.size A2 ps) (fun i _ => ps.length - (intOf i).toNat)
      case atStart =>
        refine ⟨0, Nat.zero_le _, rfl, hIB2.out, hbel2, hI2.out.more ?_ (Nat.le_refl _)⟩
        simp; omega
      case round =>
        obtain ⟨j, hj, rfl, hib, hbel3, his⟩ := hrel
        have hIB3 := Lib.hid hib
        have hIS3 := Lib.hid his
        clear hib his
        by_cases hjt : j < ps.length
        · obtain ⟨b2, o2, rfl, hbb, hc⟩ := hIS3.out (by omega)
          have hcj := hc j hjt
          obtain ⟨hq0, hq1⟩ := hPk.out _ (List.getElem_mem hjt)
          obtain ⟨q, hq⟩ := Int.eq_ofNat_of_zero_le hq0
          have hql : q < es.length := by omega
          rw [hq] at hcj
          have hQ := Lib.hid hq
          clear hc hq hq0 hq1
          have hlen3 : ((ps.take j).foldl bump (usesAt es k)).length = es.length := by rw [foldl_bump_len]; exact hLen.out
          have hcu := hIB3.out.cell q (by rw [hlen3]; exact hql)
          have hfu := hIB3.out.frozen q
          have hbd3 := (foldl_bump_Bd (ps.take j) hBd.out) q
          have hlj : (ps.take j).length ≤ 2 := by rw [List.length_take]; omega
          have hsnoc : (ps.take (j + 1)).foldl bump (usesAt es k) = ((ps.take j).foldl bump (usesAt es k)).set q (((ps.take j).foldl bump (usesAt es k)).getD q 0 + 1) := by
            rw [List.take_succ_eq_append_getElem hjt, List.foldl_append, hQ.out]; rfl
          have hS3 := Lib.hid hsnoc
          generalize (ps.take j).foldl bump (usesAt es k) = us at *
          have hcu' : wr.cell? ⟨w.heap.size, q, none⟩ = some (.int .i64 (us.getD q 0)) := by
            rw [hcu, List.getD_eq_getElem?_getD, List.getElem?_eq_getElem (by omega)]; rfl
          clear hcu hsnoc hlen3
          generalize us.getD q 0 = x at *
          obtain ⟨hx0, hx1⟩ := hbd3
          have hx2 : x ≤ 1000 := by omega
          clear hx1
          have hkeep : ∀ p : Addr, p.block ≠ w.heap.size → (wr.setCell ⟨w.heap.size, q, none⟩ (.int .i64 (x + 1))).cell? p = wr.cell? p := fun p hne => World.cell?_setCell_other wr _ p _ (fun e => by subst e; exact hne rfl)
          have hK := Lib.hid hkeep
          clear hkeep
          go_wp2
          go_roundw
          case rel =>
            refine ⟨j + 1, by omega, by go_num, ?_, hbel3.setCell (Nat.le_refl _) _, ?_⟩
            · rw [hS3.out]; exact hIB3.out.set q (x + 1)
            · have := hIS3.out.keep (w' := wr.setCell ⟨w.heap.size, q, none⟩ (.int .i64 (x + 1))) fun p hp _ => hK.out p (by omega)
              exact this.more (Nat.le_refl _) (by simp [World.setCell])
          case measure => simp [intOf]; omega
        · obtain rfl : j = ps.length := by omega
          go_wp2
          go_roundw
          case rel =>
            refine ⟨k + 1, by omega, by go_num, ?_, hbel3⟩
            have := hIB3.out
            rw [List.take_length] at this
            rw [hSk.out]; exact this
          case measure => simp [intOf]; omega
    · obtain rfl : k = es.length := by omega
      go_wp2
      go_ret
      refine ⟨w.heap.size, ?_, Nat.le_refl _, hIB.out, hbel⟩
      rw [show (uses es).length = es.length from usesAt_len es _]
      rfl
set_option maxHeartbeats 4000000 in
theorem exUses_any (L B : Nat) (A : Option Addr) (c : Nat) (es : List Nd) (w : World) (hl : es.length ≤ 24) (hes : NS w L B A es) (hB : B ≤ w.heap.size) (hp : ∀ n ∈ es, ∀ p ∈ parts n, 0 ≤ p ∧ p < es.length) :
    Calls Try.prog 223 #[.slice A es.length c] w (UsesAre w (uses es)) := by
  have hmk := run_make_ints es.length (by omega)
  have hU0 : Hid (IB (w.alloc (.cells (intCells (zeros es.length)) 3)) w.heap.size 3 (usesAt es 0)) := heap_alloc_new w _
  have hBel0 := (Below.refl w.heap.size w).alloc (Nat.le_refl _) (.cells (intCells (zeros es.length)) 3)
  have hE := Lib.hid hes
  have hP := Lib.hid hp
  clear hes hp
  go_enter Try.func223, Try.ntmps223
  go_wp2
  go_loopw [13] (fun i wr => ∃ k : Nat, k ≤ es.length ∧ i = .int .i64 k ∧ IB wr w.heap.size 3 (usesAt es k) ∧ Below w.heap.size w wr) (fun i _ => es.length - (intOf i).toNat)
  case atStart => exact ⟨0, Nat.zero_le _, rfl, hU0.out, hBel0⟩
  case round =>
    obtain ⟨k, hk, rfl, hib, hbel⟩ := hrel
    have hIB := Lib.hid hib
    have hglt := hib.lt
    clear hib hmk hBel0 hU0
    by_cases hlt : k < es.length
    · obtain ⟨b, o, rfl, ⟨_, hbB⟩, hc⟩ := (hE.out.below hbel hB) (by omega)
      obtain ⟨c1, c2, c3, c4⟩ := hc k hlt
      clear hc
      have hPk : Hid (∀ p ∈ parts es[k], 0 ≤ p ∧ p < es.length) := hP.out _ (List.getElem_mem hlt)
      have hSk := Lib.hid (usesAt_succ hlt)
      have hBd := Lib.hid (usesAt_Bd (es := es) (k := k) hk)
      have hLen := Lib.hid (usesAt_len es k)
      have hp2 := parts_len es[k]
      clear hP
      generalize hnd : es[k] = nd at *
      obtain ⟨s, a, bb, v⟩ := nd
      clear hnd
      go_wp2_with (fail)
      refine (exParts_any _ _ _ _ _).mono ?_
      rintro e w2 ⟨A2, cc, rfl, hIS, hb2⟩
      have hI2 := Lib.hid hIS
      have hbel2 : Below w.heap.size w w2 := hbel.trans (((Below.refl _ _).alloc hbel.size _).trans (hb2.mono (by simp; have := hbel.size; omega)))
      have hIB2 : Hid (IB w2 w.heap.size 3 (usesAt es k)) := (show IB _ _ _ _ from hIB.out).below ((Below.refl wr.heap.size wr).alloc (Nat.le_refl _) _ |>.trans (hb2.mono (by simp))) hglt
      have hsz2 := hb2.size
      simp at hsz2
      clear hIS hb2 hIB c1 c2 c3 c4 hbel
      generalize hps : parts ⟨s, a, bb, v⟩ = ps at *
      clear hps
      go_wp2_with (fail)
      go_loopw [20] (fun i wi => ∃ j : Nat, j ≤ ps.length ∧ i = .int .i64 j ∧ IB wi w.heap.size 3 ((ps.take j).foldl bump (usesAt es k)) ∧ Below w.heap.size w wi ∧ IS wi (w.heap.size + 1) wi.heap.size A2 ps) (fun i _ => ps.length - (intOf i).toNat)
      case atStart =>
        refine ⟨0, Nat.zero_le _, rfl, hIB2.out, hbel2, hI2.out.more ?_ (Nat.le_refl _)⟩
        simp; omega
      case round =>
        obtain ⟨j, hj, rfl, hib, hbel3, his⟩ := hrel
        have hIB3 := Lib.hid hib
        have hIS3 := Lib.hid his
        clear hib his
        by_cases hjt : j < ps.length
        · obtain ⟨b2, o2, rfl, hbb, hc⟩ := hIS3.out (by omega)
          have hcj := hc j hjt
          obtain ⟨hq0, hq1⟩ := hPk.out _ (List.getElem_mem hjt)
          obtain ⟨q, hq⟩ := Int.eq_ofNat_of_zero_le hq0
          have hql : q < es.length := by omega
          rw [hq] at hcj
          have hQ := Lib.hid hq
          clear hc hq hq0 hq1
          have hlen3 : ((ps.take j).foldl bump (usesAt es k)).length = es.length := by rw [foldl_bump_len]; exact hLen.out
          have hcu := hIB3.out.cell q (by rw [hlen3]; exact hql)
          have hfu := hIB3.out.frozen q
          have hbd3 := (foldl_bump_Bd (ps.take j) hBd.out) q
          have hlj : (ps.take j).length ≤ 2 := by rw [List.length_take]; omega
          have hsnoc : (ps.take (j + 1)).foldl bump (usesAt es k) = ((ps.take j).foldl bump (usesAt es k)).set q (((ps.take j).foldl bump (usesAt es k)).getD q 0 + 1) := by
            rw [List.take_succ_eq_append_getElem hjt, List.foldl_append, hQ.out]; rfl
          have hS3 := Lib.hid hsnoc
          generalize (ps.take j).foldl bump (usesAt es k) = us at *
          have hcu' : wr.cell? ⟨w.heap.size, q, none⟩ = some (.int .i64 (us.getD q 0)) := by
            rw [hcu, List.getD_eq_getElem?_getD, List.getElem?_eq_getElem (by omega)]; rfl
          clear hcu hsnoc hlen3
          generalize us.getD q 0 = x at *
          obtain ⟨hx0, hx1⟩ := hbd3
          have hx2 : x ≤ 1000 := by omega
          clear hx1
          have hkeep : ∀ p : Addr, p.block ≠ w.heap.size → (wr.setCell ⟨w.heap.size, q, none⟩ (.int .i64 (x + 1))).cell? p = wr.cell? p := fun p hne => World.cell?_setCell_other wr _ p _ (fun e => by subst e; exact hne rfl)
          have hK := Lib.hid hkeep
          clear hkeep
          go_wp2
          go_roundw
          case rel =>
            refine ⟨j + 1, by omega, by go_num, ?_, hbel3.setCell (Nat.le_refl _) _, ?_⟩
            · rw [hS3.out]; exact hIB3.out.set q (x + 1)
            · have := hIS3.out.keep (w' := wr.setCell ⟨w.heap.size, q, none⟩ (.int .i64 (x + 1))) fun p hp _ => hK.out p (by omega)
              exact this.more (Nat.le_refl _) (by simp [World.setCell])
          case measure => simp [intOf]; omega
        · obtain rfl : j = ps.length := by omega
          go_wp2
          go_roundw
          case rel =>
            refine ⟨k + 1, by omega, by go_num, ?_, hbel3⟩
            have := hIB3.out
            rw [List.take_length] at this
            rw [hSk.out]; exact this
          case measure => simp [intOf]; omega
    · obtain rfl : k = es.length := by omega
      go_wp2
      go_ret
      refine ⟨w.heap.size, ?_, Nat.le_refl _, hIB.out, hbel⟩
      rw [show (uses es).length = es.length from usesAt_len es _]
      rfl
end Go.Proofs.Ytmhdijklindipaa
