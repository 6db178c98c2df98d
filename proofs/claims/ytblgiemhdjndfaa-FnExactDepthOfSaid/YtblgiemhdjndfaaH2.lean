import Derived.Test.YtblgiemhdjndfaaH
import Derived.WalkKit
import Derived.WalkSpells
import Derived.WalkLawsBesides
import Derived.Laws.MakeOwn
import Derived.StillTailTactics
import Derived.Deep.QuietTactic
import Derived.BigQuiet
import Derived.Lib.Hide
namespace Go.Proofs.Ytblgiemhdjndfaa
open Go.RowKit
set_option linter.unusedVariables false

theorem Try.infoNode : (Try.prog.info? 51).map (fun i => (i.zero, i.size, i.bytes)) = some (some (.agg #[.string ByteArray.empty, .int .i64 0, .int .i64 0, .int .i64 0]), 4, 40) := by kernel_rfl
theorem run_make_nodes (n : Nat) (hn : n ≤ 1048576) (W : World) : (Instr.makeSlice 25 (.int .i64 (n : Int)) (.int .i64 (n : Int))).run Try.prog W = .ok (.slice (some ⟨W.heap.size, 0, none⟩) n n) (W.alloc (.cells (ndCells (List.replicate n zeroNd)) 51)) := by
  obtain ⟨i0, hi, hz0, hz1, hz2⟩ := info_parts Try.infoNode
  have h := run_make (P := Try.prog) W 25 51 i0 _ Try.underlying25 hi hz0 .i64 .i64 n n (by omega) (by omega) (by rw [hz2]; omega) (by omega)
  rw [h]
  simp only [Int.toNat_natCast, hz1]
  congr 3
  exact made_nodes n

def NodesAre (w : World) (es : List Nd) (e : Ending) (w' : World) : Prop :=
  ∃ g, e = .returned (.slice (some ⟨g, 0, none⟩) es.length es.length) ∧ w.heap.size ≤ g ∧ NB w' g 51 es ∧ Below w.heap.size w w'
def filled (es : List Nd) (k : Nat) : List Nd := es.take k ++ List.replicate (es.length - k) zeroNd

theorem filled_set {es : List Nd} {k : Nat} (h : k < es.length) : (filled es k).set k es[k] = filled es (k + 1) := by
  unfold filled
  obtain ⟨m, hm⟩ : ∃ m, es.length - k = m + 1 := ⟨es.length - k - 1, by omega⟩
  rw [List.set_append_right _ _ (by rw [List.length_take]; omega), hm, List.replicate_succ, List.take_succ_eq_append_getElem h, List.append_assoc]
  have : k - (es.take k).length = 0 := by rw [List.length_take]; omega
  rw [this, List.set_cons_zero, show es.length - (k + 1) = m by omega]; rfl

theorem toNodeS_any (L B : Nat) (A : Option Addr) (c : Nat) (es : List Nd) (w : World) (hl : es.length ≤ 1048576) (hes : NS w L B A es) (hB : B ≤ w.heap.size) :
    Calls Try.prog 17 #[.slice A es.length c] w (NodesAre w es) := by
  have hmk := run_make_nodes es.length hl
  have hU0 : Hid (NB (w.alloc (.cells (ndCells (List.replicate es.length zeroNd)) 51)) w.heap.size 51 (filled es 0)) := heap_alloc_new w _
  have hBel0 := (Below.refl w.heap.size w).alloc (Nat.le_refl _) (.cells (ndCells (List.replicate es.length zeroNd)) 51)
  have hE := Lib.hid hes
  clear hes
  go_enter Try.func17, Try.ntmps17
  go_wp2
  go_loopw [4] (fun i wr => ∃ k : Nat, k ≤ es.length ∧ i = .int .i64 k ∧ NB wr w.heap.size 51 (filled es k) ∧ Below w.heap.size w wr) (fun i _ => es.length - (intOf i).toNat)
  case atStart => exact ⟨0, Nat.zero_le _, rfl, hU0.out, hBel0⟩
  case round =>
    obtain ⟨k, hk, rfl, hib, hbel⟩ := hrel
    have hIB := Lib.hid hib
    have hglt := hib.lt
    clear hib hmk hBel0 hU0
    by_cases hlt : k < es.length
    · obtain ⟨b, o, rfl, ⟨_, hbB⟩, hc⟩ := (hE.out.below hbel hB) (by omega)
      obtain ⟨c1, c2, c3, c4⟩ := hc k hlt
      clear hc
      have hBelB := Lib.hid hbel
      generalize hnd : es[k] = nd at *
      obtain ⟨s, a, bb, v⟩ := nd
      have hND := Lib.hid hnd
      clear hnd hbel
      go_wp2_with (fail)
      refine (toNode_any _ _ _ _ _).mono ?_
      rintro e w2 ⟨rfl, hb2⟩
      have hIB2 : Hid (NB w2 w.heap.size 51 (filled es k)) := (show NB _ _ _ _ from hIB.out).below hb2 hglt
      have hbel2 : Hid (Below w.heap.size w w2) := hBelB.out.trans (hb2.mono hBelB.out.size)
      clear c1 c2 c3 c4 hb2
      have hfl : (filled es k).length = es.length := by simp [filled]; omega
      obtain ⟨z1, z2, z3, z4, d1, d2, d3, d4⟩ := hIB2.out.cells_ex k (by omega)
      have f1 := hIB2.out.frozen (k * 4)
      have f2 := hIB2.out.frozen (k * 4 + 1)
      have f3 := hIB2.out.frozen (k * 4 + 2)
      have f4 := hIB2.out.frozen (k * 4 + 3)
      have hst : Hid (NB (setNode w2 w.heap.size k ⟨s, a, bb, v⟩) w.heap.size 51 (filled es (k + 1))) := by
        have h1 := hIB2.out.store k (by omega) ⟨s, a, bb, v⟩
        have h2 : (filled es k).set k ⟨s, a, bb, v⟩ = filled es (k + 1) := by
          rw [← hND.out]; exact filled_set hlt
        rw [h2] at h1; exact h1
      have hbs := Lib.hid (below_setNode hbel2.out (g := w.heap.size) (Nat.le_refl _) k ⟨s, a, bb, v⟩)
      clear hfl
      go_wp2
      go_roundw
      case rel => exact ⟨k + 1, by omega, by go_num, hst.out, hbs.out⟩
      case measure => simp [intOf]; omega
    · obtain rfl : k = es.length := by omega
      go_wp2
      go_ret
      refine ⟨w.heap.size, rfl, Nat.le_refl _, ?_, hbel⟩
      have := hIB.out
      rwa [show filled es es.length = es by simp [filled]] at this

set_option maxRecDepth 100000 in
set_option maxHeartbeats 1000000 in
theorem eqNodeS_any (L B L' B' : Nat) (A A' : Option Addr) (m m' c c' : Nat) (es es' : List Nd) (w : World) (hm : m = es.length) (hm' : m' = es'.length) (hl : es.length ≤ 1048576) (hl' : es'.length ≤ 1048576) (hes : NS w L B A es) (hes' : NS w L' B' A' es') (hB : B ≤ w.heap.size) (hB' : B' ≤ w.heap.size) (heq : es = es') :
    Calls Try.prog 19 #[.slice A m c, .slice A' m' c'] w fun e w' => e = .returned (.bool true) ∧ Below w.heap.size w w' := by
  subst heq
  subst hm
  obtain rfl := hm'
  have hE := Lib.hid hes
  have hE' := Lib.hid hes'
  have hBB := Lib.hid hB
  have hBB' := Lib.hid hB'
  have hBel0 := Below.refl w.heap.size w
  clear hes hes' hB hB'
  go_enter Try.func19, Try.ntmps19
  go_wp2
  go_loopw [5] (fun i wr => ∃ k : Nat, k ≤ es.length ∧ i = .int .i64 k ∧ Below w.heap.size w wr) (fun i _ => es.length - (intOf i).toNat)
  case atStart => exact ⟨0, Nat.zero_le _, rfl, hBel0⟩
  case round =>
    obtain ⟨k, hk, rfl, hbel⟩ := hrel
    by_cases hlt : k < es.length
    · obtain ⟨b, o, rfl, ⟨_, hbB⟩, hc⟩ := (hE.out.below hbel hBB.out) (by omega)
      obtain ⟨b', o', rfl, ⟨_, hbB'⟩, hc'⟩ := (hE'.out.below hbel hBB'.out) (by omega)
      obtain ⟨c1, c2, c3, c4⟩ := hc k hlt
      obtain ⟨d1, d2, d3, d4⟩ := hc' k hlt
      clear hc hc'
      have hBelB := Lib.hid hbel
      generalize es[k] = nd at *
      obtain ⟨s, a, bb, v⟩ := nd
      have i1 : (k : Int) < (es.length : Int) := by omega
      have i0 : (0 : Int) ≤ (k : Int) := by omega
      go_wp2_with (fail)
      go_still_tail 8, (by kernel_rfl)
      change wpList _ _ _ _ _ wr.drew
      have hbd := Lib.hid (hBelB.out.drew)
      generalize wr.drew = wd at *
      clear c1 c2 c3 c4 d1 d2 d3 d4 hbel
      go_wp2_with (fail)
      refine (eqNode_any _ _ _ _ _ _ _ _ _).mono ?_
      rintro e w2 ⟨rfl, hb2⟩
      have hbel2 := Lib.hid (hbd.out.trans (hb2.mono hbd.out.size))
      have e1 : (s.toList == s.toList && a == a && bb == bb && v == v) = true := by simp
      clear hb2
      rw [e1]
      go_wp2
      go_roundw
      case rel => exact ⟨k + 1, by omega, by go_num, hbel2.out⟩
      case measure => simp [intOf]; omega
    · obtain rfl : k = es.length := by omega
      go_wp2
      go_ret
      exact ⟨rfl, hbel⟩
end Go.Proofs.Ytblgiemhdjndfaa
