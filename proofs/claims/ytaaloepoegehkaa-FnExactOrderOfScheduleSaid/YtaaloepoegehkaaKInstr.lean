import Derived.Test.YtaaloepoegehkaaRows
import Derived.Test.YtaaloepoegehkaaV2
import Derived.Test.YtaaloepoegehkaaMI2
import Derived.WalkKit
import Derived.WalkSpells
import Derived.WalkLawsBesides
import Derived.Laws.MakeOwn
import Derived.StillTailTactics
import Derived.Deep.QuietTactic
import Derived.BigQuiet
import Derived.Lib.Hide
/- Slices of Instr: what the laws do with them. -/
namespace Go.Proofs.Ytaaloepoegehkaa
open Go.RowKit
set_option linter.unusedVariables false

theorem In.hk : ∀ x : In, (In.enc x).length = 5 := fun _ => rfl
theorem In.cells {w : World} {lo hi : Nat} {A : Option Addr} {es : List In} (h : RS In.enc 5 w lo hi A es) (hn : 0 < es.length) : ∃ b o, A = some ⟨b, o, none⟩ ∧ (lo ≤ b ∧ b < hi) ∧ ∀ i (h : i < es.length),
    w.cell? ⟨b, o + i * 5, none⟩ = some (.string es[i].op) ∧ w.cell? ⟨b, o + i * 5 + 1, none⟩ = some (.int .i64 es[i].d) ∧ w.cell? ⟨b, o + i * 5 + 2, none⟩ = some (.int .i64 es[i].a) ∧ w.cell? ⟨b, o + i * 5 + 3, none⟩ = some (.int .i64 es[i].b) ∧ w.cell? ⟨b, o + i * 5 + 4, none⟩ = some (.int .i64 es[i].m) := by
  obtain ⟨b, o, e, hb, hc⟩ := h hn
  exact ⟨b, o, e, hb, fun i hi => ⟨hc i hi 0 _ rfl, hc i hi 1 _ rfl, hc i hi 2 _ rfl, hc i hi 3 _ rfl, hc i hi 4 _ rfl⟩⟩
theorem In.cellsB {t : TypeId} {w : World} {g : Nat} {es : List In} {rest : List Value} (h : CB t w g (es.flatMap In.enc ++ rest)) (i : Nat) (hi : i < es.length) :
    ∃ z0 z1 z2 z3 z4, w.cell? ⟨g, i * 5, none⟩ = some (.string z0) ∧ w.cell? ⟨g, i * 5 + 1, none⟩ = some (.int .i64 z1) ∧ w.cell? ⟨g, i * 5 + 2, none⟩ = some (.int .i64 z2) ∧ w.cell? ⟨g, i * 5 + 3, none⟩ = some (.int .i64 z3) ∧ w.cell? ⟨g, i * 5 + 4, none⟩ = some (.int .i64 z4) :=
  ⟨_, _, _, _, _, h.at In.hk i hi 0 _ rfl, h.at In.hk i hi 1 _ rfl, h.at In.hk i hi 2 _ rfl, h.at In.hk i hi 3 _ rfl, h.at In.hk i hi 4 _ rfl⟩


def SzInstr (w : World) (left : Int) (n : Nat) (e : Ending) (w' : World) : Prop := ∃ r : Int, e = .returned (.int .i64 r) ∧ r ≤ left ∧ (0 ≤ r → (n : Int) ≤ left) ∧ -1 ≤ r ∧ Below w.heap.size w w'
theorem szInstr_any (op : ByteArray) (d : Int) (a : Int) (b : Int) (m : Int) (left : Int) (w : World) (hs : op.size ≤ 9223372036854775807) (h0 : 0 ≤ left) (h1 : left ≤ 1048576) :
    Calls Try.prog 66 #[.agg #[.string op, .int .i64 d, .int .i64 a, .int .i64 b, .int .i64 m], .int .i64 left] w (SzInstr w left 0) := by
  have hB := (Below.refl w.heap.size w).alloc (Nat.le_refl _)
  by_cases h : (op.size : Int) ≤ left
  · go_enter Try.func66, Try.ntmps66
    go_wp2
    go_ret
    exact ⟨left - op.size, rfl, by omega, fun _ => by omega, by omega, hB _⟩
  · go_enter Try.func66, Try.ntmps66
    go_wp2
    go_ret
    exact ⟨-1, rfl, by omega, fun _ => by omega, by omega, hB _⟩


theorem szInstrS_any (L B : Nat) (A : Option Addr) (c : Nat) (es : List In) (left0 : Int) (w : World) (hl : es.length ≤ 9223372036854775807) (hes : RS In.enc 5 w L B A es) (hB : B ≤ w.heap.size) (hs : ∀ n ∈ es, n.op.size ≤ 9223372036854775807) (h0 : 0 ≤ left0) (h1 : left0 ≤ 1048576) :
    Calls Try.prog 17 #[.slice A es.length c, .int .i64 left0] w (SzInstr w left0 es.length) := by
  have hE := Lib.hid hes
  have hS := Lib.hid hs
  have hBB := Lib.hid hB
  have hBel0 := Lib.hid (Below.refl w.heap.size w)
  clear hes hs hB
  by_cases h : (es.length : Int) ≤ left0
  · go_enter Try.func17, Try.ntmps17
    go_wp2
    go_loopw [1, 5] (fun l i wr => ∃ (k : Nat) (left : Int), k ≤ es.length ∧ i = .int .i64 k ∧ l = .int .i64 left ∧ 0 ≤ left ∧ left ≤ left0 ∧ Below w.heap.size w wr) (fun _ i _ => es.length - (intOf i).toNat)
    case atStart => exact ⟨0, left0 - es.length, Nat.zero_le _, rfl, rfl, by omega, by omega, hBel0.out⟩
    case round =>
      obtain ⟨k, left, hk, rfl, rfl, hl0, hl1, hbel⟩ := hrel
      by_cases hlt : k < es.length
      · obtain ⟨b, o, rfl, ⟨_, hbB⟩, hc⟩ := In.cells (hE.out.below hbel hBB.out) (by omega)
        obtain ⟨c1, c2, c3, c4, c5⟩ := hc k hlt
        clear hc
        have hsz := hS.out _ (List.getElem_mem hlt)
        generalize es[k] = nd at *
        obtain ⟨op, d, a, bb, m⟩ := nd
        have hBelB := Lib.hid hbel
        go_wp2_with (fail)
        refine (szInstr_any _ _ _ _ _ _ _ hsz hl0 (by omega)).mono ?_
        rintro e w2 ⟨r, rfl, hr1, _, hr3, hb2⟩
        have hbel2 : Below w.heap.size w w2 := hBelB.out.trans (hb2.mono hBelB.out.size)
        clear hb2 hbel c1 c2 c3 c4 c5
        by_cases hr : 0 ≤ r
        · go_wp2
          go_roundw
          case rel => exact ⟨k + 1, r, by omega, by go_num, rfl, hr, by omega, hbel2⟩
          case measure => simp [intOf]; omega
        · go_wp2
          go_ret
          exact ⟨-1, rfl, by omega, fun _ => by omega, by omega, hbel2⟩
      · obtain rfl : k = es.length := by omega
        go_wp2
        go_ret
        exact ⟨left, rfl, by omega, fun _ => h, by omega, hbel⟩
  · go_enter Try.func17, Try.ntmps17
    go_wp2
    go_ret
    exact ⟨-1, rfl, by omega, fun _ => by omega, by omega, hBel0.out⟩


theorem toInstr_any (op : ByteArray) (d : Int) (a : Int) (b : Int) (m : Int) (w : World) :
    Calls Try.prog 73 #[.agg #[.string op, .int .i64 d, .int .i64 a, .int .i64 b, .int .i64 m]] w fun e w' => e = .returned (.agg #[.string op, .int .i64 d, .int .i64 a, .int .i64 b, .int .i64 m]) ∧ Below w.heap.size w w' := by
  have hB1 := fun o => (Below.refl w.heap.size w).alloc (Nat.le_refl _) o
  have hB2 := fun o o' => (hB1 o).alloc (by simp) o'
  have hB3 := fun o o' o'' => (hB2 o o').alloc (by simp; omega) o''
  go_enter Try.func73, Try.ntmps73
  go_wp2
  simp [bodyPost, results, Try.results73, go_sem]
  exact hB3 _ _ _


theorem eqInstr_any (op : ByteArray) (d : Int) (a : Int) (b : Int) (m : Int) (op' : ByteArray) (d' : Int) (a' : Int) (b' : Int) (m' : Int) (w : World) :
    Calls Try.prog 79 #[.agg #[.string op, .int .i64 d, .int .i64 a, .int .i64 b, .int .i64 m], .agg #[.string op', .int .i64 d', .int .i64 a', .int .i64 b', .int .i64 m']] w fun e w' =>
      e = .returned (.bool (op.toList == op'.toList && d == d' && a == a' && b == b' && m == m')) ∧ Below w.heap.size w w' := by
  have hB1 := fun o => (Below.refl w.heap.size w).alloc (Nat.le_refl _) o
  have hB2 := fun o o' => (hB1 o).alloc (by simp) o'
  go_enter Try.func79, Try.ntmps79
  go_wp2
  all_goals go_ret
  all_goals exact ⟨ret_bool (by simp_all), hB2 _ _⟩

def zeroIn : In := ⟨ByteArray.empty, 0, 0, 0, 0⟩
theorem Try.infoInstr : (Try.prog.info? 88).map (fun i => (i.zero, i.size, i.bytes)) = some (some (.agg #[.string ByteArray.empty, .int .i64 0, .int .i64 0, .int .i64 0, .int .i64 0]), 5, 48) := by kernel_rfl
theorem run_make_Instr (n : Nat) (hn : n ≤ 1048576) (W : World) : (Instr.makeSlice 28 (.int .i64 (n : Int)) (.int .i64 (n : Int))).run Try.prog W = .ok (.slice (some ⟨W.heap.size, 0, none⟩) n n) (W.alloc (.cells ((List.replicate n zeroIn).flatMap In.enc).toArray 88)) := by
  obtain ⟨i0, hi, hz0, hz1, hz2⟩ := info_parts Try.infoInstr
  have h := run_make (P := Try.prog) W 28 88 i0 _ Try.underlying28 hi hz0 .i64 .i64 n n (by omega) (by omega) (by rw [hz2]; omega) (by omega)
  rw [h]
  simp only [Int.toNat_natCast, hz1]
  refine congrArg (fun c => Result.ok (Value.slice (some ⟨W.heap.size, 0, none⟩) n n) (W.alloc (.cells c 88))) ?_
  apply Array.ext'
  exact made_flat In.hk zeroIn n

/-- A new slice that reads as es. -/
def FreshInstr (w : World) (es : List In) (e : Ending) (w' : World) : Prop :=
  ∃ A c, e = .returned (.slice A es.length c) ∧ OK In.enc 5 88 w' w.heap.size w'.heap.size (.slice A es.length c) es ∧ Below w.heap.size w w'
theorem cb_nil {t : TypeId} {w : World} {g : Nat} {xs : List In} (h : CB t w g (xs.flatMap In.enc ++ [])) : KB In.enc t w g xs := by
  unfold CB at h; unfold KB; rw [List.append_nil] at h; exact h
theorem toInstrS_any (L B : Nat) (A : Option Addr) (c : Nat) (es : List In) (w : World) (hl : es.length ≤ 1048576) (hes : RS In.enc 5 w L B A es) (hB : B ≤ w.heap.size) :
    Calls Try.prog 20 #[.slice A es.length c] w (FreshInstr w es) := by
  have hmk := run_make_Instr es.length hl
  have hU0 : Hid (CB 88 (w.alloc (.cells ((List.replicate es.length zeroIn).flatMap In.enc).toArray 88)) w.heap.size ((over es (List.replicate es.length zeroIn) 0).flatMap In.enc ++ [])) := by
    rw [over_zero, List.append_nil]; exact heap_alloc_new w _
  have hBel0 := (Below.refl w.heap.size w).alloc (Nat.le_refl _) (.cells ((List.replicate es.length zeroIn).flatMap In.enc).toArray 88)
  have hE := Lib.hid hes
  clear hes
  go_enter Try.func20, Try.ntmps20
  go_wp2
  go_loopw [4] (fun i wr => ∃ k : Nat, k ≤ es.length ∧ i = .int .i64 k ∧ CB 88 wr w.heap.size ((over es (List.replicate es.length zeroIn) k).flatMap In.enc ++ []) ∧ Below w.heap.size w wr) (fun i _ => es.length - (intOf i).toNat)
  case atStart => exact ⟨0, Nat.zero_le _, rfl, hU0.out, hBel0⟩
  case round =>
    obtain ⟨k, hk, rfl, hib, hbel⟩ := hrel
    have hIB := Lib.hid hib
    have hglt := hib.lt
    clear hib hmk hBel0 hU0
    by_cases hlt : k < es.length
    · obtain ⟨b, o, rfl, ⟨_, hbB⟩, hc⟩ := In.cells (hE.out.below hbel hB) (by omega)
      obtain ⟨c1, c2, c3, c4, c5⟩ := hc k hlt
      clear hc
      have hBelB := Lib.hid hbel
      have hov : Hid ((over es (List.replicate es.length zeroIn) k).set k es[k] = over es (List.replicate es.length zeroIn) (k + 1)) := over_succ hlt (by simp)
      have hol : Hid ((over es (List.replicate es.length zeroIn) k).length = es.length) := by rw [Hid, over_len (by omega) (by simp)]; simp
      generalize hnd : es[k] = nd at *
      obtain ⟨op, d, a, bb, m⟩ := nd
      have hND := Lib.hid hnd
      clear hnd hbel
      go_wp2_with (fail)
      refine (toInstr_any _ _ _ _ _ _).mono ?_
      rintro e w2 ⟨rfl, hb2⟩
      have hIB2 : Hid (CB 88 w2 w.heap.size ((over es (List.replicate es.length zeroIn) k).flatMap In.enc ++ [])) := hIB.out.below hb2 hglt
      have hbel2 : Hid (Below w.heap.size w w2) := hBelB.out.trans (hb2.mono hBelB.out.size)
      clear c1 c2 c3 c4 c5 hb2
      obtain ⟨z0, z1, z2, z3, z4, d1, d2, d3, d4, d5⟩ := In.cellsB hIB2.out k (by rw [hol.out]; exact hlt)
      have f1 := hIB2.out.frozen (k * 5)
      have f2 := hIB2.out.frozen (k * 5 + 1)
      have f3 := hIB2.out.frozen (k * 5 + 2)
      have f4 := hIB2.out.frozen (k * 5 + 3)
      have f5 := hIB2.out.frozen (k * 5 + 4)
      have hst : Hid (CB 88 (setCells w2 w.heap.size (k * 5) (In.enc ⟨op, d, a, bb, m⟩)) w.heap.size ((over es (List.replicate es.length zeroIn) (k + 1)).flatMap In.enc ++ [])) := by
        have h1 := hIB2.out.store In.hk k (by rw [hol.out]; exact hlt) ⟨op, d, a, bb, m⟩
        rw [hov.out] at h1; exact h1
      have hbs := Lib.hid (below_setCells (In.enc ⟨op, d, a, bb, m⟩) w.heap.size (k * 5) hbel2.out (Nat.le_refl _))
      go_wp2
      go_roundw
      case rel => exact ⟨k + 1, by omega, by go_num, hst.out, hbs.out⟩
      case measure => simp [intOf]; omega
    · obtain rfl : k = es.length := by omega
      go_wp2
      go_ret
      refine ⟨_, _, rfl, ?_, hbel⟩
      have h1 := hIB.out
      rw [over_all (by simp)] at h1
      exact (cb_nil h1).toOK In.hk (by unfold maxLen; omega) (Nat.le_refl _) hglt

set_option maxRecDepth 100000 in
set_option maxHeartbeats 1000000 in
theorem eqInstrS_any (L B L' B' : Nat) (A A' : Option Addr) (m m' c c' : Nat) (es es' : List In) (w : World) (hm : m = es.length) (hm' : m' = es'.length) (hl : es.length ≤ 1048576) (hes : RS In.enc 5 w L B A es) (hes' : RS In.enc 5 w L' B' A' es') (hB : B ≤ w.heap.size) (hB' : B' ≤ w.heap.size) (heq : es = es') :
    Calls Try.prog 23 #[.slice A m c, .slice A' m' c'] w fun e w' => e = .returned (.bool true) ∧ Below w.heap.size w w' := by
  subst heq
  subst hm
  obtain rfl := hm'
  have hE := Lib.hid hes
  have hE' := Lib.hid hes'
  have hBB := Lib.hid hB
  have hBB' := Lib.hid hB'
  have hBel0 := Below.refl w.heap.size w
  clear hes hes' hB hB'
  go_enter Try.func23, Try.ntmps23
  go_wp2
  go_loopw [5] (fun i wr => ∃ k : Nat, k ≤ es.length ∧ i = .int .i64 k ∧ Below w.heap.size w wr) (fun i _ => es.length - (intOf i).toNat)
  case atStart => exact ⟨0, Nat.zero_le _, rfl, hBel0⟩
  case round =>
    obtain ⟨k, hk, rfl, hbel⟩ := hrel
    by_cases hlt : k < es.length
    · obtain ⟨b, o, rfl, ⟨_, hbB⟩, hc⟩ := In.cells (hE.out.below hbel hBB.out) (by omega)
      obtain ⟨b', o', rfl, ⟨_, hbB'⟩, hc'⟩ := In.cells (hE'.out.below hbel hBB'.out) (by omega)
      obtain ⟨c1, c2, c3, c4, c5⟩ := hc k hlt
      obtain ⟨d1, d2, d3, d4, d5⟩ := hc' k hlt
      clear hc hc'
      have hBelB := Lib.hid hbel
      generalize es[k] = nd at *
      obtain ⟨op, d, a, bb, m⟩ := nd
      have i1 : (k : Int) < (es.length : Int) := by omega
      have i0 : (0 : Int) ≤ (k : Int) := by omega
      go_wp2_with (fail)
      go_still_tail 8, (by kernel_rfl)
      change wpList _ _ _ _ _ wr.drew
      have hbd := Lib.hid (hBelB.out.drew)
      generalize wr.drew = wd at *
      clear c1 c2 c3 c4 c5 d1 d2 d3 d4 d5 hbel
      go_wp2_with (fail)
      refine (eqInstr_any _ _ _ _ _ _ _ _ _ _ _).mono ?_
      rintro e w2 ⟨rfl, hb2⟩
      have hbel2 := Lib.hid (hbd.out.trans (hb2.mono hbd.out.size))
      have e1 : (op.toList == op.toList && d == d && a == a && bb == bb && m == m) = true := by simp
      clear hb2
      rw [e1]
      go_wp2
      go_roundw
      case rel => exact ⟨k + 1, by omega, by go_num, hbel2.out⟩
      case measure => simp [intOf]; omega
    · obtain rfl : k = es.length := by omega
      go_wp2
      go_ret
      exact ⟨rfl, hbel⟩

end Go.Proofs.Ytaaloepoegehkaa
