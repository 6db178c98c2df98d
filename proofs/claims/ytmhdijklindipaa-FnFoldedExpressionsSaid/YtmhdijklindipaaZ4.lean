/- Texts of this proof, one behind the other: TB, TC, DT4, DT6, R, XT. -/
import Derived.Test.YtmhdijklindipaaZ5
import Derived.Test.YtmhdijklindipaaZ10
import Derived.Test.YtmhdijklindipaaCG
import Derived.WalkKit
import Derived.WalkSpells
import Derived.WalkLawsBesides
import Derived.Outline
import Derived.Lib.Hide
import Derived.Lib.JoinLaws
import Derived.Lib.AppendZeros
import Derived.Test.YtmhdijklindipaaZ9
import Derived.Test.YtmhdijklindipaaZ17
import Derived.Deep.QuietTactic
import Derived.BigQuiet
import Derived.Deep.RegionHeld3
import Derived.Laws.StructEq
import Derived.Test.YtmhdijklindipaaM2
import Derived.Test.YtmhdijklindipaaE
import Derived.Deep.RegionLaw
import Derived.BigRegion
namespace Go.Proofs.Ytmhdijklindipaa
open Go.RowKit
set_option linter.unusedVariables false
set_option maxRecDepth 100000

/-- The value of an expression. -/
def at2 (es : List Nd) (x0 x1 : Int) : Int := (vals es x0 x1).getD (es.length - 1) 0
def tab (es : List Nd) : List Int := tabTo (at2 es) 4096
def tabR (es : List Nd) : List Int := if good es = true then tab es else []
theorem tabR_len (es : List Nd) : (tabR es).length ≤ 1048576 := by
  unfold tabR; split
  · unfold tab; rw [tabTo_len]; omega
  · simp

set_option maxHeartbeats 4000000 in
theorem exTable_any (L B : Nat) (A : Option Addr) (c : Nat) (es : List Nd) (w : World) (hl : es.length ≤ 24) (hl1 : 1 ≤ es.length) (hes : NS w L B A es) (hB : B ≤ w.heap.size) (hok : okFrom es 0 = true) :
    Calls Try.prog 121 #[.slice A es.length c] w (OwnIs w (tab es)) := by
  obtain ⟨i0, hi, hz0, hz1, hz2⟩ := info_parts Try.infoInt
  have hI := Lib.hid hi
  have hZ0 := Lib.hid hz0
  have hZ1 := Lib.hid hz1
  have hZ2 := Lib.hid hz2
  clear hi hz0 hz1 hz2
  have hat := fun (x0 x1 : Nat) (W : World) (hW : Below w.heap.size w W) (h0 : x0 < 64) (h1 : x1 < 64) => exAt_any L B A c es (x0 : Int) (x1 : Int) W hl hl1 (hes.below hW hB) (Nat.le_trans hB hW.size) hok ⟨by omega, by omega⟩ ⟨by omega, by omega⟩
  have hAt := Lib.hid hat
  have hBel0 := Lib.hid (Below.refl w.heap.size w)
  clear hes hB hok hat hl hl1
  go_enter Try.func121, Try.ntmps121
  go_wp2
  go_loopw [3, 4, 5] (fun v i _ wr => ∃ k : Nat, k ≤ 64 ∧ i = .int .i64 k ∧ OW wr w.heap.size wr.heap.size v (tabTo (at2 es) (64 * k + 0)) ∧ Below w.heap.size w wr) (fun _ i _ _ => 64 - (intOf i).toNat)
  case atStart => exact ⟨0, Nat.zero_le _, rfl, OW.nil _ _ _, hBel0.out⟩
  case round =>
    obtain ⟨k, hk, rfl, how, hbel⟩ := hrel
    have hOW := Lib.hid how
    have hBL := Lib.hid hbel
    clear how hbel
    by_cases hlt : k < 64
    · obtain ⟨wo, hwo⟩ : ∃ wo : World, wo = wr := ⟨_, rfl⟩
      rw [← hwo] at hOW hBL ⊢
      clear hwo
      have hk63 : (k : Int) ≤ 63 := by omega
      have hd63 : decide ((k : Int) ≤ 63) = true := by simpa using hk63
      go_wp2
      go_loopw [3, 5] (fun v j wr => ∃ n : Nat, n ≤ 64 ∧ j = .int .i64 n ∧ OW wr w.heap.size wr.heap.size v (tabTo (at2 es) (64 * k + n)) ∧ Below w.heap.size w wr) (fun _ j _ => 64 - (intOf j).toNat)
      case atStart => exact ⟨0, Nat.zero_le _, rfl, hOW.out, hBL.out⟩
      case round =>
        obtain ⟨n, hn, rfl, how, hbel⟩ := hrel
        have hOI := Lib.hid how
        have hBI := Lib.hid hbel
        obtain ⟨V, cv, rfl, _⟩ := how.form
        have hTL := Lib.hid (tabTo_len (at2 es) (64 * k + n))
        clear how hbel
        by_cases hlt2 : n < 64
        · have hS := Lib.hid (tabTo_succ (at2 es) k n hlt2)
          generalize tabTo (at2 es) (64 * k + n) = xs at *
          go_wp2_with (fail)
          refine (hAt.out k n _ hBI.out hlt hlt2).mono ?_
          rintro e w2 ⟨rfl, hb2⟩
          have hb2' := Lib.hid (hBI.out.trans (hb2.mono hBI.out.size))
          have ho2 := Lib.hid ((hOI.out.below hb2 (Nat.le_refl _)).1.alloc (.cells #[.int .i64 ((vals es (k : Int) (n : Int)).getD (es.length - 1) 0)] 3))
          have hb3 := Lib.hid (hb2'.out.alloc hb2'.out.size (.cells #[.int .i64 ((vals es (k : Int) (n : Int)).getD (es.length - 1) 0)] 3))
          have hlo := Lib.hid hOI.out.lo
          have hxx : Hid (at2 es k n = (vals es (k : Int) (n : Int)).getD (es.length - 1) 0) := rfl
          clear hb2
          generalize (vals es (k : Int) (n : Int)).getD (es.length - 1) 0 = x at *
          have hxl : xs.length ≤ 4096 := by rw [hTL.out]; omega
          go_wp2_with (at_builtin; refine wpList_append_own _ rfl _ _ 27 rfl w.heap.size 3 i0 (.int .i64 0) 1 8 Try.underlying27 hI.out hZ0.out hZ1.out hZ2.out rfl (by decide) _ _ _ rfl ho2.out ⟨w2.heap.size, 0, none⟩ 1 1 [.int .i64 x] rfl rfl (new1 rfl) (one1 _) (by unfold maxLen; omega) (by omega) (by have := hb2'.out.size; simp; omega) ?_; intro v' w4 hown4 hgr4 _)
          have R1 := Lib.hid (OW.push (by simpa using hown4) : OW w4 w.heap.size w4.heap.size v' (xs ++ [x]))
          have R2 := Lib.hid (hb3.out.grown hgr4 hb3.out.size (fun k hk => (hlo.out k hk).1))
          clear hown4 hgr4
          go_wp2
          go_roundw
          case rel => exact ⟨n + 1, by omega, by go_num, by rw [hS.out, hxx.out]; exact R1.out, R2.out⟩
          case measure => simp [intOf]; omega
        · obtain rfl : n = 64 := by omega
          rw [tabTo_next] at hOI
          go_wp2
          go_roundw
          case rel => exact ⟨k + 1, by omega, by go_num, hOI.out, hBI.out⟩
          case measure => simp [intOf]; omega
    · obtain rfl : k = 64 := by omega
      obtain ⟨V, cv, rfl, _⟩ := hOW.out.form
      go_wp2
      go_ret
      exact ⟨V, cv, rfl, hOW.out, hBL.out⟩
end Go.Proofs.Ytmhdijklindipaa

namespace Go.Proofs.Ytmhdijklindipaa
open Go.RowKit
set_option linter.unusedVariables false
set_option maxRecDepth 100000

/-- One int appended where there is room. -/
theorem append_room_int {w : World} {g r : Nat} {xs : List Int} (hib : IB w g 3 (xs ++ zeros (r + 1))) (ty : TypeId) (cap : Nat) (hcap : xs.length + 1 ≤ cap) (a : Nat) (x : Int) (ha : w.cell? ⟨a, 0, none⟩ = some (.int .i64 x)) :
    (Builtin.append_ #[27, 27] ty #[.slice (some ⟨g, 0, none⟩) xs.length cap, .slice (some ⟨a, 0, none⟩) 1 1]).run Try.prog w = .ok (.slice (some ⟨g, 0, none⟩) (xs.length + 1) cap) (w.setCell ⟨g, xs.length, none⟩ (.int .i64 x)) := by
  obtain ⟨i0, hi, hz0, hz1, hz2⟩ := info_parts Try.infoInt
  have h := run_append_room_cells (P := Try.prog) (w := w) 27 ty 3 i0 Try.underlying27 hi g 0 xs.length cap ⟨a, 0, none⟩ 1 1 [.int .i64 x] (by rw [hz1]; rfl)
    (fun j u hj => by
      match j, hj with
      | 0, hj => simp at hj; subst hj; simpa [Addr.add] using ha)
    (one1 x) hcap
    (fun j hj => by
      obtain rfl : j = 0 := by simpa using hj
      rw [hz1, Nat.zero_add, Nat.mul_one, Nat.add_zero, hib.cell xs.length (by simp [zeros])]; rfl)
    (fun j hj => hib.frozen _)
  rw [hz1, Nat.zero_add, Nat.mul_one] at h
  exact h
theorem room_set {w : World} {g r : Nat} {xs : List Int} (h : IB w g 3 (xs ++ zeros (r + 1))) (x : Int) : IB (w.setCell ⟨g, xs.length, none⟩ (.int .i64 x)) g 3 ((xs ++ [x]) ++ zeros r) := by
  have := h.set xs.length x
  rwa [List.set_append_right _ _ (Nat.le_refl _), Nat.sub_self, show zeros (r + 1) = 0 :: zeros r from rfl, List.set_cons_zero, List.append_cons] at this
theorem room_ow {w : World} {g r lo hi : Nat} {xs : List Int} (h : IB w g 3 (xs ++ zeros r)) (hlo : lo ≤ g) (hhi : g < hi) (hl : xs.length + r ≤ 1000000) : OW w lo hi (.slice (some ⟨g, 0, none⟩) xs.length (xs.length + r)) xs :=
  ⟨⟨by simp, .inr ⟨g, xs.length + r, intCells (xs ++ zeros r), rfl, hlo, h, by omega, by unfold maxLen; omega, by simp [intCells, zeros], by simp [intCells]⟩⟩,
   fun k hk => by simp [Value.ownBlock] at hk; omega⟩

theorem IB.other {w : World} {g q : Nat} {t : TypeId} {xs : List Int} (h : IB w g t xs) (j : Nat) (x : Value) (hne : q ≠ g) : IB (w.setCell ⟨q, j, none⟩ x) g t xs :=
  (Below.heap_setCell w ⟨q, j, none⟩ x g (by simpa using fun e => hne e.symm)).trans h

set_option maxHeartbeats 8000000 in
theorem iTableOf_any (L B : Nat) (A : Option Addr) (c : Nat) (es : List Nd) (w : World) (hl : es.length ≤ 1048576) (hes : NS w L B A es) (hB : B ≤ w.heap.size) :
    Calls Try.prog 20 #[.slice A es.length c] w (IntsRes w (tabR es) (good es)) := by
  have H := Lib.hid (IsExpr_any L B A c es w hl hes hB)
  have hE := Lib.hid hes
  have hBB := Lib.hid hB
  clear hes hB
  have hmk0 : ∀ W : World, (Instr.makeSlice 27 (.int .i64 0) (.int .i64 4096)).run Try.prog W = .ok (.slice (some ⟨W.heap.size, 0, none⟩) 0 4096) (W.alloc (.cells (madeCells #[.int .i64 0] 4096) 3)) := fun W => run_make_room (P := Try.prog) 27 3 (.int .i64 0) 8 Try.underlying27 Try.infoInt rfl .i64 .i64 4096 (by omega) (by omega) W
  have hmk := run_make_ints es.length hl
  cases hg : good es
  · have hR2 : Hid (tabR es = []) := by simp [Hid, tabR, hg]
    rw [hg] at H
    clear hg
    go_enter Try.func20, Try.ntmps20
    go_wp2_with (fail)
    refine H.out.mono ?_
    rintro e w2 ⟨rfl, hb⟩
    go_wp2_with (fail)
    go_ret2
    refine ⟨none, 0, ?_, ?_, hb⟩
    · rw [hR2.out]; rfl
    · rw [hR2.out]; exact OW.nil _ _ _
  have hR2 : Hid (tabR es = tab es) := by simp [Hid, tabR, hg]
  obtain ⟨hl1, hl24, hok⟩ := good_len hg
  have hOk := Lib.hid hok
  rw [hg] at H
  clear hg hok
  have hes' := fun (W : World) (hW : Below w.heap.size w W) => hE.out.below hW hBB.out
  have hF := Lib.hid (fun (x0 x1 gv cg : Nat) (xs : List Int) (W : World) (hW : Below w.heap.size w W) (hv : w.heap.size ≤ gv) (hib : IB W gv 3 xs) (hxl : xs.length = es.length) (hw : AllW xs) (h0 : x0 < 64) (h1 : x1 < 64) =>
    fillValues_eq L B A c es.length cg es gv xs (x0 : Int) (x1 : Int) W hxl.symm hl24 (hes' W hW) (Nat.le_trans hBB.out hv) hxl hib hw hOk.out ⟨by omega, by omega⟩ ⟨by omega, by omega⟩)
  clear hes'
  obtain ⟨m, hm⟩ : ∃ m, es.length = m + 1 := ⟨es.length - 1, by omega⟩
  have hM := Lib.hid hm
  have hvl : ∀ x0 x1, Hid ((vals es x0 x1).length = es.length) := fun x0 x1 => vals_len _ _ _
  have hat : ∀ x0 x1, Hid (at2 es x0 x1 = (vals es x0 x1).getD m 0) := fun x0 x1 => by rw [Hid, at2, hM.out, Nat.add_sub_cancel]
  have hAT := Lib.hid hat
  clear hat
  have hml : m < es.length := by omega
  have hw2 := Lib.hid (show (es.length : Int) - 1 = m by omega)
  clear hm
  go_enter Try.func20, Try.ntmps20
  go_wp2_with (fail)
  refine H.out.mono ?_
  rintro e w2 ⟨rfl, hb2⟩
  have hB2 := Lib.hid hb2
  have hz2 := Lib.hid hb2.size
  clear hb2
  have hT0 : Hid (IB (w2.alloc (.cells (madeCells #[.int .i64 0] 4096) 3)) w2.heap.size 3 (tabTo (at2 es) (64 * 0 + 0) ++ zeros (4096 - (64 * 0 + 0)))) := by
    have h1 : madeCells #[Value.int .i64 0] 4096 = intCells (zeros 4096) := by
      apply Array.ext'
      rw [intCells, zeros, List.map_replicate]
      exact toList_madeCells_one _ _
    rw [h1]
    exact heap_alloc_new w2 _
  have hB3 := Lib.hid (hB2.out.alloc hz2.out (.cells (madeCells #[.int .i64 0] 4096) 3))
  generalize madeCells #[Value.int .i64 0] 4096 = mc at *
  have hT1 := Lib.hid (hT0.out.below ((Below.refl _ _).alloc (Nat.le_refl _) (.cells (intCells (zeros es.length)) 3)) hT0.out.lt)
  have hV1 : Hid (IB ((w2.alloc (.cells mc 3)).alloc (.cells (intCells (zeros es.length)) 3)) (w2.heap.size + 1) 3 (zeros es.length)) := by
    have := heap_alloc_new (w2.alloc (.cells mc 3)) (.cells (intCells (zeros es.length)) 3)
    rwa [World.size_alloc] at this
  have hB4 := Lib.hid (hB3.out.alloc hB3.out.size (.cells (intCells (zeros es.length)) 3))
  have hT2 : Hid (IB ((w2.alloc (.cells mc 3)).alloc (.cells (intCells (zeros es.length)) 3)) w2.heap.size 3 (tabTo (at2 es) (64 * 0 + 0) ++ zeros (4096 - (64 * 0 + 0)))) := hT1.out
  have hgz := hz2.out
  have hxz : (zeros es.length).length = es.length := by simp [zeros]
  have hXZ := Lib.hid hxz
  clear hxz hT0 hT1 hB3
  go_wp2
  generalize hW0 : (w2.alloc (.cells mc 3)).alloc (.cells (intCells (zeros es.length)) 3) = W0 at *
  generalize hg0 : w2.heap.size = g at *
  clear hW0 hg0 hmk hmk0
  go_loopw [4, 15] (fun v i wr => ∃ k : Nat, k ≤ 64 ∧ i = .int .i64 k ∧ v = .slice (some ⟨g, 0, none⟩) (64 * k + 0) 4096 ∧ IB wr g 3 (tabTo (at2 es) (64 * k + 0) ++ zeros (4096 - (64 * k + 0))) ∧ (∃ xs : List Int, (xs.length = es.length ∧ AllW xs) ∧ IB wr (g + 1) 3 xs) ∧ Below w.heap.size w wr) (fun _ i _ => 64 - (intOf i).toNat)
  case atStart => exact ⟨0, Nat.zero_le _, rfl, rfl, hT2.out, ⟨_, ⟨hXZ.out, AllW.zeros _⟩, hV1.out⟩, hB4.out⟩
  case round =>
    obtain ⟨k, hk, rfl, rfl, hib, ⟨xs, hxs, hiv⟩, hbel⟩ := hrel
    have hIB := Lib.hid hib
    have hIV := Lib.hid (And.intro hxs hiv)
    have hBL := Lib.hid hbel
    clear hib hxs hiv hbel
    by_cases hlt : k < 64
    · obtain ⟨wo, hwo⟩ : ∃ wo : World, wo = wr := ⟨_, rfl⟩
      rw [← hwo] at hIB hIV hBL ⊢
      clear hwo
      have hk64 : (k : Int) < 64 := by omega
      have hd64 : decide ((k : Int) < 64) = true := by simpa using hk64
      go_wp2
      go_loopw [4, 18] (fun v j wr => ∃ n : Nat, n ≤ 64 ∧ j = .int .i64 n ∧ v = .slice (some ⟨g, 0, none⟩) (64 * k + n) 4096 ∧ IB wr g 3 (tabTo (at2 es) (64 * k + n) ++ zeros (4096 - (64 * k + n))) ∧ (∃ xs : List Int, (xs.length = es.length ∧ AllW xs) ∧ IB wr (g + 1) 3 xs) ∧ Below w.heap.size w wr) (fun _ j _ => 64 - (intOf j).toNat)
      case atStart => exact ⟨0, Nat.zero_le _, rfl, rfl, hIB.out, ⟨_, hIV.out⟩, hBL.out⟩
      case round =>
        obtain ⟨n, hn, rfl, rfl, hib, ⟨ys, hys, hiv⟩, hbel⟩ := hrel
        have hJB := Lib.hid hib
        have hJV := Lib.hid (And.intro hys hiv)
        have hCL := Lib.hid hbel
        clear hib hys hiv hbel
        by_cases hlt2 : n < 64
        · have hn64 : (n : Int) < 64 := by omega
          have hdn64 : decide ((n : Int) < 64) = true := by simpa using hn64
          go_wp2_with (fail)
          refine (hF.out k n (g + 1) _ ys _ hCL.out (by omega) hJV.out.2 hJV.out.1.1 hJV.out.1.2 hlt hlt2).mono ?_
          rintro e w3 ⟨rfl, hi3, hg3⟩
          have hgz3 := hg3.size
          have hCZ := hCL.out.size
          have hJ3 : Hid (IB w3 g 3 (tabTo (at2 es) (64 * k + n) ++ zeros (4096 - (64 * k + n)))) := (hg3.block g hJB.out.lt (fun e => by injection e with e; omega)).trans hJB.out
          have hI3 := Lib.hid hi3
          have hC3 := Lib.hid (hCL.out.grown hg3 hCZ (fun q hq => by injection hq with hq; omega))
          have hcm : w3.cell? ⟨g + 1, m, none⟩ = some (.int .i64 (at2 es k n)) := by
            rw [(hAT.out k n).out, hi3.cell m (by rw [(hvl k n).out]; omega), List.getD_eq_getElem?_getD, List.getElem?_eq_getElem (by rw [(hvl k n).out]; omega)]; rfl
          have hTL := Lib.hid (tabTo_len (at2 es) (64 * k + n))
          have hS := Lib.hid (tabTo_succ (at2 es) k n hlt2)
          have hvl' := Lib.hid (And.intro (hvl k n).out (valsAt_W hOk.out ⟨by omega, by omega⟩ ⟨by omega, by omega⟩ (Nat.le_refl _) : AllW (vals es (k : Int) (n : Int))))
          clear hi3 hg3
          generalize tabTo (at2 es) (64 * k + n) = zs at *
          generalize at2 es k n = x at *
          obtain ⟨r, hr⟩ : ∃ r, 4096 - (64 * k + n) = r + 1 := ⟨4096 - (64 * k + n) - 1, by omega⟩
          have hr2 : Hid (4096 - (64 * k + (n + 1)) = r) := by simp only [Hid]; omega
          rw [hr] at hJ3
          have hJ4 := Lib.hid (hJ3.out.below ((Below.refl w3.heap.size w3).alloc (Nat.le_refl _) (.cells #[.int .i64 x] 3)) hJ3.out.lt)
          have hap := Lib.hid (fun ty => append_room_int hJ4.out ty 4096 (by rw [hTL.out]; omega) w3.heap.size x (by simp))
          have hst := Lib.hid (room_set hJ4.out x)
          have hsv := Lib.hid (((hI3.out.below ((Below.refl w3.heap.size w3).alloc (Nat.le_refl _) (.cells #[.int .i64 x] 3)) hI3.out.lt)))
          have hCf := Lib.hid ((hC3.out.alloc hC3.out.size (.cells #[.int .i64 x] 3)).setCell (p := ⟨g, zs.length, none⟩) (by show w.heap.size ≤ g; omega) (.int .i64 x))
          rw [hTL.out] at hap hst hCf
          clear hr
          have hw3 := hw2.out
          go_wp2_with (at_builtin; refine Lib.wpList_append_run _ rfl _ _ _ _ rfl _ _ rfl rfl _ _ (hap.out _) ?_)
          go_roundw
          case rel => exact ⟨n + 1, by omega, by go_num, rfl, by rw [hS.out, hr2.out]; exact hst.out, ⟨_, hvl'.out, IB.other hsv.out _ _ (by omega)⟩, hCf.out⟩
          case measure => simp [intOf]; omega
        · obtain rfl : n = 64 := by omega
          rw [tabTo_next] at hJB
          go_wp2
          go_roundw
          case rel => exact ⟨k + 1, by omega, by go_num, rfl, hJB.out, ⟨_, hJV.out⟩, hCL.out⟩
          case measure => simp [intOf]; omega
    · obtain rfl : k = 64 := by omega
      have hfin := Lib.hid (room_ow (lo := w.heap.size) (hi := wr.heap.size) (r := 0) hIB.out (by omega) hIB.out.lt (by rw [tabTo_len]; omega))
      rw [tabTo_len] at hfin
      go_wp2
      go_ret2
      rw [hR2.out]
      exact ⟨_, _, by unfold tab; rw [tabTo_len]; rfl, by unfold tab; rw [tabTo_len]; exact hfin.out, hBL.out⟩

set_option maxHeartbeats 1000000 in
theorem sTableOf_any (L B : Nat) (A : Option Addr) (c : Nat) (es : List Nd) (w : World) (hl : es.length ≤ 1048576) (hes : NS w L B A es) (hB : B ≤ w.heap.size) :
    Calls Try.prog 21 #[.slice A es.length c] w (IntsRes w (tabR es) (good es)) := by
  have H := Lib.hid (exGood_any L B A c es w hl hes hB)
  have hE := Lib.hid hes
  have hBB := Lib.hid hB
  clear hes hB
  cases hg : good es
  · have hR2 : Hid (tabR es = []) := by simp [Hid, tabR, hg]
    rw [hg] at H
    clear hg
    go_enter Try.func21, Try.ntmps21
    go_wp2_with (fail)
    refine H.out.mono ?_
    rintro e w2 ⟨rfl, hb⟩
    go_wp2_with (fail)
    go_ret2
    refine ⟨none, 0, ?_, ?_, hb⟩
    · rw [hR2.out]; rfl
    · rw [hR2.out]; exact OW.nil _ _ _
  have hR2 : Hid (tabR es = tab es) := by simp [Hid, tabR, hg]
  obtain ⟨hl1, hl24, hok⟩ := good_len hg
  have hT := Lib.hid (fun (W : World) (hW : Below w.heap.size w W) => exTable_any L B A c es W hl24 hl1 (hE.out.below hW hBB.out) (Nat.le_trans hBB.out hW.size) hok)
  rw [hg] at H
  clear hg hok hl1 hl24
  go_enter Try.func21, Try.ntmps21
  go_wp2_with (fail)
  refine H.out.mono ?_
  rintro e w2 ⟨rfl, hb⟩
  have hbb := Lib.hid hb
  clear hb
  go_wp2_with (fail)
  refine (hT.out w2 hbb.out).mono ?_
  rintro e w3 ⟨V, cv, rfl, how, hb3⟩
  have hO := Lib.hid (how.lower hbb.out.size)
  have hb3' := Lib.hid (hbb.out.trans (hb3.mono hbb.out.size))
  clear how hb3
  generalize tab es = zs at *
  go_wp2_with (fail)
  go_ret2
  rw [hR2.out]
  exact ⟨V, cv, rfl, hO.out, hb3'.out⟩
end Go.Proofs.Ytmhdijklindipaa

/- The laws' comparisons of expressions, of what is the same; tables and trees. -/
namespace Go.Proofs.Ytmhdijklindipaa
open Go.RowKit
set_option linter.unusedVariables false
set_option maxRecDepth 100000

theorem sameN_self (x : Nd) : sameN x x = true := by simp [sameN]
set_option maxHeartbeats 4000000 in
theorem pSameExpr_eq (L B L' B' : Nat) (A A' : Option Addr) (m m' c c' : Nat) (xs : List Nd) (w : World) (hm : m = xs.length) (hm' : m' = xs.length) (hl : xs.length ≤ 1048576) (hx : RS Nd.enc 4 w L B A xs) (hx' : RS Nd.enc 4 w L' B' A' xs) :
    Calls Try.prog 91 #[.slice A m c, .slice A' m' c'] w (YesD w) := by
  subst hm hm'
  have hX := Lib.hid hx.ns
  have hY := Lib.hid hx'.ns
  have hgd := nd_guard
  clear hx hx'
  go_enter Try.func91, Try.ntmps91
  go_wp2
  go_loopw [13] (fun i wr => ∃ k : Nat, k ≤ xs.length ∧ i = .int .i64 k ∧ ∃ n, wr = w.drewN n) (fun i _ => xs.length - (intOf i).toNat)
  case atStart => exact ⟨0, Nat.zero_le _, rfl, 0, rfl⟩
  case round =>
    obtain ⟨k, hk, rfl, n, rfl⟩ := hrel
    by_cases hlt : k < xs.length
    · obtain ⟨b, o, rfl, _, hc⟩ := hX.out (by omega)
      obtain ⟨b', o', rfl, _, hc'⟩ := hY.out (by omega)
      obtain ⟨c1, c2, c3, c4⟩ := hc k hlt
      obtain ⟨d1, d2, d3, d4⟩ := hc' k hlt
      have k0 : (0 : Int) ≤ (k : Int) := by omega
      have k1 : (k : Int) < (xs.length : Int) := by omega
      clear hc hc'
      generalize xs[k] = z at *
      obtain ⟨op, a, bb, v⟩ := z
      dsimp only at *
      have hEq : ∀ W : World, (Op.equalIn 10000 40 (.agg #[.string op, .int .i64 a, .int .i64 bb, .int .i64 v]) (.agg #[.string op, .int .i64 a, .int .i64 bb, .int .i64 v])).run Try.prog W = .ok true W := fun W => by
        have h := equalIn_nd op op a bb v a bb v W
        rw [sameN_self] at h; exact h
      go_wp2_with (fail)
      go_quiet (fail)
      all_goals go_wp2
      all_goals go_roundw
      case rel => exact ⟨k + 1, by omega, by go_num, _, (by first | rfl | exact World.drewN_drewN _ _ _)⟩
      case measure => simp [intOf]; omega
    · obtain rfl : k = xs.length := by omega
      go_wp2
      go_ret
      exact ⟨rfl, _, rfl⟩
set_option maxHeartbeats 4000000 in
theorem pTable_any (L B : Nat) (A : Option Addr) (c : Nat) (es : List Nd) (w : World) (hl : es.length ≤ 1048576) (hes : RS Nd.enc 4 w L B A es) (hB : B ≤ w.heap.size) :
    Calls Try.prog 26 #[.slice A es.length c] w fun e w' => ∃ (A0 : Option Addr) (c0 : Nat), e = .returned (.slice A0 (tabR es).length c0) ∧ OW w' w.heap.size w'.heap.size (.slice A0 (tabR es).length c0) (tabR es) ∧ Below w.heap.size w w' := by
  have H := Lib.hid (iTableOf_any L B A c es w hl hes.ns hB)
  clear hes
  go_enter Try.func26, Try.ntmps26
  go_wp2_with (fail)
  refine H.out.mono ?_
  rintro e w1 ⟨A1, c1, rfl, ho, hb⟩
  have hO := Lib.hid ho
  have hBB := Lib.hid hb
  clear ho hb H
  go_wp2
  go_ret
  exact ⟨A1, c1, rfl, hO.out, hBB.out⟩
set_option maxHeartbeats 4000000 in
theorem pTree_any (L B : Nat) (A : Option Addr) (c : Nat) (es : List Nd) (w : World) (hl : es.length ≤ 1048576) (hes : RS Nd.enc 4 w L B A es) (hB : B ≤ w.heap.size) :
    Calls Try.prog 96 #[.slice A es.length c] w fun e w' => e = .returned (.bool (treeR es)) ∧ Below w.heap.size w w' := by
  have H := Lib.hid (iIsTree_any L B A c es w hl hes.ns hB)
  have hT : Hid (treeR es = (good es && tree es)) := rfl
  clear hes
  generalize treeR es = t at *
  generalize good es = g at *
  go_enter Try.func96, Try.ntmps96
  go_wp2_with (fail)
  refine H.out.mono ?_
  rintro e w1 ⟨rfl, hb⟩
  have hBB := Lib.hid hb
  have hT2 : Hid (g = false → t = false) := fun h => by rw [hT.out, h]; rfl
  clear hb H hT
  cases g
  · have e := hT2.out rfl
    subst e
    go_wp2
    go_ret
    exact ⟨rfl, hBB.out⟩
  · clear hT2
    go_wp2
    go_ret
    exact ⟨rfl, hBB.out⟩
end Go.Proofs.Ytmhdijklindipaa

/- What DrawFoldExpr hands back. -/
namespace Go.Proofs.Ytmhdijklindipaa
open Go.RowKit
set_option linter.unusedVariables false
set_option maxRecDepth 100000

/-- A node of an own slice, written whole. -/
theorem OK.put4N {w : World} {lo hi n c : Nat} {A : Option Addr} {xs : List Nd} (h : OK Nd.enc 4 40 w lo hi (.slice A n c) xs) (h0 : 0 < xs.length) :
    ∃ g, A = some ⟨g, 0, none⟩ ∧ lo ≤ g ∧ g < hi ∧ ∀ k (hk : k < xs.length), (w.cell? ⟨g, k * 4, none⟩ = some (.string xs[k].op) ∧ w.cell? ⟨g, k * 4 + 1, none⟩ = some (.int .i64 xs[k].a) ∧ w.cell? ⟨g, k * 4 + 2, none⟩ = some (.int .i64 xs[k].b) ∧ w.cell? ⟨g, k * 4 + 3, none⟩ = some (.int .i64 xs[k].v)) ∧
      (∀ f : Nat, w.frozen? ⟨g, f, none⟩ = false) ∧
      ∀ y : Nd, OK Nd.enc 4 40 ((((w.setCell ⟨g, k * 4, none⟩ (.string y.op)).setCell ⟨g, k * 4 + 1, none⟩ (.int .i64 y.a)).setCell ⟨g, k * 4 + 2, none⟩ (.int .i64 y.b)).setCell ⟨g, k * 4 + 3, none⟩ (.int .i64 y.v)) lo hi (.slice (some ⟨g, 0, none⟩) n c) (xs.set k y) := by
  rcases OK.open h with ⟨_, e⟩ | ⟨g, cap, e, h1, h2, h3, h4, rest, h5, h6⟩
  · omega
  · injection e with e1 e2 e3
    subst e1; subst e2; subst e3
    refine ⟨g, rfl, h1, h2, fun k hk => ⟨⟨?_, ?_, ?_, ?_⟩, fun f => h5.frozen f, fun y => ?_⟩⟩
    · exact CB.at Nd.hk h5 k hk 0 _ rfl
    · exact CB.at Nd.hk h5 k hk 1 _ rfl
    · exact CB.at Nd.hk h5 k hk 2 _ rfl
    · exact CB.at Nd.hk h5 k hk 3 _ rfl
    · have h7 := CB.store Nd.hk h5 k hk y
      have hl := OK.close (lo := lo) (hi := hi) (cap := c) Nd.hk h7 h1 h2 (by rw [List.length_set]; exact h3) h4 (by
        rw [List.length_append, kflat_len Nd.hk, List.length_set]
        rw [List.length_append, kflat_len Nd.hk] at h6; exact h6)
      rw [List.length_set] at hl
      exact hl
set_option maxHeartbeats 8000000 in
theorem DrawFoldExpr_d (A : Option Addr) (c : Nat) (bs : List Int) (w : World) (hl : bs.length ≤ 1048576) (ha : ∀ x ∈ bs, 0 ≤ x ∧ x ≤ 255) (hy : BY w w.heap.size A bs) :
    Calls Try.prog 97 #[.slice A bs.length c] w fun e w' => ∃ (v : Value) (xs : List Nd), e = .returned v ∧ GotE w w' v 64 xs ∧ Below w.heap.size w w' := by
  have d0 := Lib.hid (dd_start w A c bs hl ha hy)
  clear hy
  have HO := Lib.hid fun (K : Nat) (W : World) (hK : K ≤ 900000000) (hc : Cur W w.heap.size K) => one_any w.heap.size K 2 W hK (by omega) hc
  have HW := Lib.hid fun (K : Nat) (W : World) (hK : K ≤ 800000000) (hc : Cur W w.heap.size K) => word_any w.heap.size K W hK hc
  go_enter Try.func97, Try.ntmps97
  have H := Lib.hid (anyExpr_any 4 w.heap.size 0 (w.alloc (.cells #[.slice A bs.length c, .int .i64 0, .int .u64 0] 101)) (by omega) (by decide) (by omega) d0.out.cur)
  rw [show ((4 : Nat) : Int) = 4 from rfl] at H
  go_wp2_with (fail)
  refine H.out.mono ?_
  rintro e w1 ⟨xs0, A0, c0, rfl, _, hn0, hok, hcu, hch⟩
  have hK5 : 0 + 40 * tN 4 + 100 ≤ 2000 := by decide
  have d1 := Lib.hid (d0.out.step (hcu.more hK5) hch)
  have hO1 := Lib.hid (hok.lower d0.out.sz)
  clear hok hcu hch H d0
  go_wp2
  go_loopw [13] (fun i wr => ∃ (k : Nat) (ys : List Nd), k ≤ xs0.length ∧ i = .int .i64 k ∧ ys.length = xs0.length ∧ OK Nd.enc 4 40 wr (w.heap.size + 1) wr.heap.size (.slice A0 xs0.length c0) ys ∧ Dd w (w.heap.size + 1) w.heap.size (2000 + 6 * k) wr) (fun i _ => xs0.length - (intOf i).toNat)
  case atStart => exact ⟨0, xs0, Nat.zero_le _, rfl, rfl, hO1.out, d1.out⟩
  case round =>
    clear hO1 d1
    obtain ⟨k, ys, hk, rfl, hyl, hok, hdd⟩ := hrel
    have hD := Lib.hid hdd
    by_cases hkt : k < xs0.length
    · obtain ⟨gA, rfl, hlo, hgh, hput⟩ := OK.put4N hok (by omega)
      obtain ⟨⟨c1, c2, c3, c4⟩, _, _⟩ := hput k (by omega)
      have hO := Lib.hid hok
      have hki : (k : Int) < (xs0.length : Int) := by omega
      have hk0 : (0 : Int) ≤ (k : Int) := by omega
      have hYL := Lib.hid hyl
      have hgA := Lib.hid hlo
      generalize hz : ys[k]'(by omega) = z at *
      clear hz
      clear hput hok hdd hyl hlo hgh
      obtain ⟨op, za, zb, zv⟩ := z
      dsimp only at c1 c2 c3 c4
      by_cases hop : op.toList = [105, 110]
      · have hH1 := Lib.hid (HO.out (2000 + 6 * k) wr (by omega) hD.out.cur)
        go_wp2_with (fail)
        refine hH1.out.mono ?_
        rintro e w2 ⟨b, rfl, hcu, hch⟩
        have hO2 : OK Nd.enc 4 40 w2 (w.heap.size + 1) w2.heap.size (.slice (some ⟨gA, 0, none⟩) xs0.length c0) ys := (hO.out.chg hch (.inr (by omega))).more hch.size
        have hD2 := Lib.hid (hD.out.step hcu hch)
        have hO2' := Lib.hid hO2
        clear hcu hch hO2 hO hD hH1
        cases b
        · have hD3 := Lib.hid (⟨hD2.out.cur.more (show 2000 + 6 * k + 2 ≤ 2000 + 6 * (k + 1) by omega), hD2.out.be, hD2.out.sz, hD2.out.gl, hD2.out.wg⟩ : Dd w (w.heap.size + 1) w.heap.size (2000 + 6 * (k + 1)) w2)
          go_wp2
          go_roundw
          case rel => exact ⟨k + 1, ys, by omega, by go_num, hYL.out, hO2'.out, hD3.out⟩
          case measure => simp [intOf]; omega
        · have hH2 := Lib.hid (HW.out (2000 + 6 * k + 2) w2 (by omega) hD2.out.cur)
          go_wp2_with (fail)
          refine hH2.out.mono ?_
          rintro e w3 ⟨x, rfl, _, hcu, hch⟩
          have hO3 : OK Nd.enc 4 40 w3 (w.heap.size + 1) w3.heap.size (.slice (some ⟨gA, 0, none⟩) xs0.length c0) ys := (hO2'.out.chg hch (.inr (by omega))).more hch.size
          have hD3 := hD2.out.step hcu hch
          obtain ⟨gB, hge, _, _, hput⟩ := OK.put4N hO3 (by have := hYL.out; omega)
          injection hge with hge
          injection hge with hge _
          subst hge
          obtain ⟨⟨e1, e2, e3, e4⟩, hfz, hset⟩ := hput k (by have := hYL.out; omega)
          have f0 := hfz (k * 4)
          have f1 := hfz (k * 4 + 1)
          have f2 := hfz (k * 4 + 2)
          have f3 := hfz (k * 4 + 3)
          have hO4 := Lib.hid (hset ⟨⟨#[99, 111, 110, 115, 116]⟩, 0, 0, x⟩)
          have hgg : w.heap.size < gA := by have := hgA.out; omega
          have hD4 : Hid (Dd w (w.heap.size + 1) w.heap.size (2000 + 6 * (k + 1)) ((((w3.setCell ⟨gA, k * 4, none⟩ (.string ⟨#[99, 111, 110, 115, 116]⟩)).setCell ⟨gA, k * 4 + 1, none⟩ (.int .i64 0)).setCell ⟨gA, k * 4 + 2, none⟩ (.int .i64 0)).setCell ⟨gA, k * 4 + 3, none⟩ (.int .i64 x))) := by
            have h := (((hD3.far (p := ⟨gA, k * 4, none⟩) hgg (.string ⟨#[99, 111, 110, 115, 116]⟩)).far (p := ⟨gA, k * 4 + 1, none⟩) hgg (.int .i64 0)).far (p := ⟨gA, k * 4 + 2, none⟩) hgg (.int .i64 0)).far (p := ⟨gA, k * 4 + 3, none⟩) hgg (.int .i64 x)
            exact ⟨h.cur.more (show 2000 + 6 * k + 2 + 4 ≤ 2000 + 6 * (k + 1) by omega), h.be, h.sz, h.gl, h.wg⟩
          clear hput hset hfz hO3 hD3 hcu hch hO2' hD2 hH2
          go_wp2
          go_roundw
          case rel => exact ⟨k + 1, _, by omega, by go_num, by rw [List.length_set]; exact hYL.out, hO4.out.more (by simp [World.setCell]), hD4.out⟩
          case measure => simp [intOf]; omega
      · have hop2 : (op.toList == [105, 110]) = false := by simpa using hop
        have hD3 := Lib.hid (⟨hD.out.cur.more (show 2000 + 6 * k ≤ 2000 + 6 * (k + 1) by omega), hD.out.be, hD.out.sz, hD.out.gl, hD.out.wg⟩ : Dd w (w.heap.size + 1) w.heap.size (2000 + 6 * (k + 1)) wr)
        go_wp2
        go_roundw
        case rel => exact ⟨k + 1, ys, by omega, by go_num, hYL.out, hO.out, hD3.out⟩
        case measure => simp [intOf]; omega
    · obtain rfl : k = xs0.length := by omega
      have hcap := Lib.hid (OK.capN hok)
      have hR := Lib.hid (OK.rsN hok)
      have hYL := Lib.hid hyl
      clear hok hdd
      go_wp2
      go_ret
      exact ⟨.slice A0 xs0.length c0, ys, rfl, ⟨A0, c0, by rw [hYL.out], by rw [hYL.out]; exact hn0, hcap.out, hR.out.more (by omega) (Nat.le_refl _)⟩, hD.out.be⟩
end Go.Proofs.Ytmhdijklindipaa

namespace Go.Proofs.Ytmhdijklindipaa
open Go.RowKit
set_option linter.unusedVariables false

/-! ### DepthOf -/
def dstep (i : Nat) (d : List Int) (k : Int) : List Int := d.set i (max (d.getD i 0) (d.getD k.toNat 0 + 1))
def depAt (es : List Nd) : Nat → List Int
  | 0 => List.replicate es.length 0
  | k + 1 => (parts (es.getD k zeroNd)).foldl (dstep k) (depAt es k)
def depR (es : List Nd) : Int := if good es = true then (depAt es es.length).getD (es.length - 1) 0 else 0
theorem depAt_succ {es : List Nd} {k : Nat} (h : k < es.length) : depAt es (k + 1) = (parts es[k]).foldl (dstep k) (depAt es k) := by
  rw [depAt, List.getD_eq_getElem?_getD, List.getElem?_eq_getElem h]; rfl
theorem foldl_dstep_len (i : Nat) (ps : List Int) (u : List Int) : (ps.foldl (dstep i) u).length = u.length := by
  induction ps generalizing u with
  | nil => rfl
  | cons p ps ih => rw [List.foldl_cons, ih]; simp [dstep]
theorem Bd.dstep {c : Int} {u : List Int} (h : Bd c u) (i : Nat) (k : Int) : Bd (c + 1) (dstep i u k) := by
  intro j
  have h1 := h j
  have h2 := h k.toNat
  have h3 := h i
  unfold Proofs.Ytmhdijklindipaa.dstep
  rw [List.getD_eq_getElem?_getD, List.getElem?_set]
  rw [List.getD_eq_getElem?_getD] at h1
  split
  · split
    · simp only [Option.getD_some]; omega
    · simp; omega
  · omega
theorem foldl_dstep_Bd (i : Nat) (ps : List Int) : ∀ {c : Int} {u : List Int}, Bd c u → Bd (c + ps.length) (ps.foldl (dstep i) u) := by
  induction ps with
  | nil => intro c u h; simpa using h
  | cons p ps ih => intro c u h; rw [List.foldl_cons]; exact (ih (h.dstep i p)).mono (by simp; omega)
theorem depAt_len (es : List Nd) (k : Nat) : (depAt es k).length = es.length := by
  induction k with
  | zero => simp [depAt]
  | succ k ih => rw [depAt, foldl_dstep_len, ih]
theorem depAt_Bd {es : List Nd} {k : Nat} (h : k ≤ es.length) : Bd (2 * k) (depAt es k) := by
  induction k with
  | zero => intro i; rw [depAt, List.getD_eq_getElem?_getD, List.getElem?_replicate]; split <;> simp
  | succ k ih =>
    rw [depAt_succ (by omega)]
    have := parts_len es[k]
    exact (foldl_dstep_Bd k _ (ih (by omega))).mono (by omega)

theorem l1Most_any (a b : Int) (w : World) : Calls Try.prog 183 #[.int .i64 a, .int .i64 b] w fun e w' => e = .returned (.int .i64 (max a b)) ∧ w = w' := by
  by_cases h : b < a
  · go_enter Try.func183, Try.ntmps183
    go_wp2
    go_ret
    exact ⟨ret_int (by omega), rfl⟩
  · go_enter Try.func183, Try.ntmps183
    go_wp2
    go_ret
    exact ⟨ret_int (by omega), rfl⟩

set_option maxRecDepth 100000 in
set_option maxHeartbeats 8000000 in
theorem sDepthOf_any (L B : Nat) (A : Option Addr) (c : Nat) (es : List Nd) (w : World) (hl : es.length ≤ 1048576) (hes : NS w L B A es) (hB : B ≤ w.heap.size) :
    Calls Try.prog 105 #[.slice A es.length c] w fun e w' => e = .returned (.tuple #[.int .i64 (depR es), .bool (good es)]) ∧ Below w.heap.size w w' := by
  have H := Lib.hid (exGood_any L B A c es w hl hes hB)
  have hE := Lib.hid hes
  have hBB := Lib.hid hB
  clear hes hB
  cases hg : good es
  · have hR2 : Hid (depR es = 0) := by simp [Hid, depR, hg]
    go_enter Try.func105, Try.ntmps105
    go_wp2_with (fail)
    refine H.out.mono ?_
    rintro e w2 ⟨rfl, hb⟩
    have hbb := Lib.hid hb
    clear hb
    go_wp2_with (fail)
    go_ret2
    exact ⟨by rw [hR2.out]; rfl, hbb.out⟩
  have hR2 : Hid (depR es = (depAt es es.length).getD (es.length - 1) 0) := by simp [Hid, depR, hg]
  obtain ⟨hl1, hl24, hok⟩ := good_len hg
  have hP := Lib.hid (ok_parts hok)
  have hmk := run_make_ints es.length (by omega)
  clear hok
  go_enter Try.func105, Try.ntmps105
  go_wp2_with (fail)
  refine H.out.mono ?_
  rintro e w2 ⟨rfl, hb⟩
  have hbb := Lib.hid hb
  have hsz := hb.size
  clear hb
  have hU0 : Hid (IB (w2.alloc (.cells (intCells (zeros es.length)) 3)) w2.heap.size 3 (depAt es 0)) := heap_alloc_new w2 _
  have hBel0 := Lib.hid ((Below.refl w2.heap.size w2).alloc (Nat.le_refl _) (.cells (intCells (zeros es.length)) 3))
  have hE2 : Hid (NS w2 L B A es) := hE.out.below hbb.out hBB.out
  have hB2 : B ≤ w2.heap.size := Nat.le_trans hBB.out hsz
  go_wp2
  go_loopw [17] (fun i wr => ∃ k : Nat, k ≤ es.length ∧ i = .int .i64 k ∧ IB wr w2.heap.size 3 (depAt es k) ∧ Below w2.heap.size w2 wr) (fun i _ => es.length - (intOf i).toNat)
  case atStart => exact ⟨0, Nat.zero_le _, rfl, hU0.out, hBel0.out⟩
  case round =>
    obtain ⟨k, hk, rfl, hib, hbel⟩ := hrel
    have hIB := Lib.hid hib
    have hglt := hib.lt
    clear hib hmk hBel0 hU0
    by_cases hlt : k < es.length
    · obtain ⟨b, o, rfl, ⟨_, hbB⟩, hc⟩ := (hE2.out.below hbel hB2) (by omega)
      obtain ⟨c1, c2, c3, c4⟩ := hc k hlt
      clear hc
      have hPk : Hid (∀ p ∈ parts es[k], 0 ≤ p ∧ p < es.length) := hP.out _ (List.getElem_mem hlt)
      have hSk := Lib.hid (depAt_succ hlt)
      have hBd := Lib.hid (depAt_Bd (es := es) (k := k) hk)
      have hLen := Lib.hid (depAt_len es k)
      have hp2 := parts_len es[k]
      clear hP
      generalize hnd : es[k] = nd at *
      obtain ⟨s, a, bb, v⟩ := nd
      clear hnd
      go_wp2_with (fail)
      refine (exParts_any _ _ _ _ _).mono ?_
      rintro e w3 ⟨A2, cc, rfl, hIS, hb2⟩
      have hI2 := Lib.hid hIS
      have hbel2 : Below w2.heap.size w2 w3 := hbel.trans (((Below.refl _ _).alloc hbel.size _).trans (hb2.mono (by simp; have := hbel.size; omega)))
      have hIB2 : Hid (IB w3 w2.heap.size 3 (depAt es k)) := (show IB _ _ _ _ from hIB.out).below ((Below.refl wr.heap.size wr).alloc (Nat.le_refl _) _ |>.trans (hb2.mono (by simp))) hglt
      have hsz2 := hb2.size
      simp at hsz2
      clear hIS hb2 hIB c1 c2 c3 c4 hbel
      generalize hps : parts ⟨s, a, bb, v⟩ = ps at *
      clear hps
      go_wp2_with (fail)
      go_loopw [25] (fun i wi => ∃ j : Nat, j ≤ ps.length ∧ i = .int .i64 j ∧ IB wi w2.heap.size 3 ((ps.take j).foldl (dstep k) (depAt es k)) ∧ Below w2.heap.size w2 wi ∧ IS wi (w2.heap.size + 1) wi.heap.size A2 ps) (fun i _ => ps.length - (intOf i).toNat)
      case atStart =>
        refine ⟨0, Nat.zero_le _, rfl, hIB2.out, hbel2, hI2.out.more ?_ (Nat.le_refl _)⟩
        simp; omega
      case round =>
        obtain ⟨j, hj, rfl, hib, hbel3, his⟩ := hrel
        have hIB3 := Lib.hid hib
        have hIS3 := Lib.hid his
        have hBel3 := Lib.hid hbel3
        clear hib his hbel3
        by_cases hjt : j < ps.length
        · obtain ⟨b2, o2, rfl, hbb2, hc⟩ := hIS3.out (by omega)
          have hcj := hc j hjt
          obtain ⟨hq0, hq1⟩ := hPk.out _ (List.getElem_mem hjt)
          obtain ⟨q, hq⟩ := Int.eq_ofNat_of_zero_le hq0
          have hql : q < es.length := by omega
          rw [hq] at hcj
          have hQ := Lib.hid hq
          clear hc hq hq0 hq1
          have hlen3 : ((ps.take j).foldl (dstep k) (depAt es k)).length = es.length := by rw [foldl_dstep_len]; exact hLen.out
          have hcu := hIB3.out.cell q (by rw [hlen3]; exact hql)
          have hck := hIB3.out.cell k (by rw [hlen3]; exact hlt)
          have hfk := hIB3.out.frozen k
          have hbd3 := (foldl_dstep_Bd k (ps.take j) hBd.out) q
          have hbd4 := (foldl_dstep_Bd k (ps.take j) hBd.out) k
          have hlj : (ps.take j).length ≤ 2 := by rw [List.length_take]; omega
          have hsnoc : (ps.take (j + 1)).foldl (dstep k) (depAt es k) = ((ps.take j).foldl (dstep k) (depAt es k)).set k (max (((ps.take j).foldl (dstep k) (depAt es k)).getD k 0) (((ps.take j).foldl (dstep k) (depAt es k)).getD q 0 + 1)) := by
            rw [List.take_succ_eq_append_getElem hjt, List.foldl_append, hQ.out]; rfl
          have hS3 := Lib.hid hsnoc
          generalize (ps.take j).foldl (dstep k) (depAt es k) = us at *
          have hcu' : wr.cell? ⟨w2.heap.size, q, none⟩ = some (.int .i64 (us.getD q 0)) := by
            rw [hcu, List.getD_eq_getElem?_getD, List.getElem?_eq_getElem (by omega)]; rfl
          have hck' : wr.cell? ⟨w2.heap.size, k, none⟩ = some (.int .i64 (us.getD k 0)) := by
            rw [hck, List.getD_eq_getElem?_getD, List.getElem?_eq_getElem (by omega)]; rfl
          clear hcu hck hsnoc hlen3
          generalize us.getD q 0 = x at *
          generalize us.getD k 0 = y at *
          obtain ⟨hx0, hx1⟩ := hbd3
          obtain ⟨hy0, hy1⟩ := hbd4
          have hx2 : x ≤ 1000 := by omega
          have hy2 : y ≤ 1000 := by omega
          clear hx1 hy1
          have hkeep : ∀ (z : Int) (p : Addr), p.block ≠ w2.heap.size → (wr.setCell ⟨w2.heap.size, k, none⟩ (.int .i64 z)).cell? p = wr.cell? p := fun z p hne => World.cell?_setCell_other wr _ p _ (fun e => by subst e; exact hne rfl)
          have hK := Lib.hid hkeep
          clear hkeep
          have i1 : (q : Int) < (es.length : Int) := by omega
          have i2 : (0 : Int) ≤ (q : Int) := by omega
          have i3 : (k : Int) < (es.length : Int) := by omega
          have i4 : (0 : Int) ≤ (k : Int) := by omega
          have i5 : IntKind.i64.wrap (x + 1) = x + 1 := by rw [IntKind.wrap_i64]; omega
          go_wp2_with (fail)
          go_region_law (go_simp; go_at_call 183; refine (l1Most_any _ _ _).mono ?_; rintro e w' ⟨rfl, rfl⟩)
          all_goals
            go_wp2
            go_roundw
            case rel =>
              refine ⟨j + 1, by omega, by go_num, ?_, (hBel3.out.setCell (Nat.le_refl _) _).drew, ?_⟩
              · rw [hS3.out]; exact hIB3.out.set k (max y (x + 1))
              · have := hIS3.out.keep (w' := wr.setCell ⟨w2.heap.size, k, none⟩ (.int .i64 (max y (x + 1)))) fun p hp _ => hK.out _ p (by omega)
                exact this.more (Nat.le_refl _) (by simp [World.setCell])
            case measure => simp [intOf]; omega
        · obtain rfl : j = ps.length := by omega
          go_wp2
          go_roundw
          case rel =>
            refine ⟨k + 1, by omega, by go_num, ?_, hBel3.out⟩
            have := hIB3.out
            rw [List.take_length] at this
            rw [hSk.out]; exact this
          case measure => simp [intOf]; omega
    · obtain rfl : k = es.length := by omega
      obtain ⟨m, hm⟩ : ∃ m, es.length = m + 1 := ⟨es.length - 1, by omega⟩
      have hlen := depAt_len es es.length
      have hR3 := hR2.out
      have hib := hIB.out
      clear hIB hR2
      generalize depAt es es.length = D at *
      have hcm := hib.cell m (by omega)
      have hRm : depR es = D[m]'(by omega) := by
        rw [hR3, List.getD_eq_getElem?_getD, show es.length - 1 = m by omega, List.getElem?_eq_getElem (by omega)]; rfl
      generalize D[m]'(by omega) = z at *
      have hRm := Lib.hid hRm
      have HB := Lib.hid (hbb.out.trans (hbel.mono hsz))
      clear hlen hR3 hib
      rw [hm]
      go_wp2
      go_ret2
      exact ⟨by rw [hRm.out]; rfl, HB.out⟩
end Go.Proofs.Ytmhdijklindipaa

/- Expressions as terms: what a node stands for, wherever its operands lie. No program. -/
namespace Go.Proofs.Ytmhdijklindipaa
open Go.RowKit
set_option linter.unusedVariables false

/-- A term: a leaf, an op of one term, an op of two. -/
inductive Tm where
  | l (op : ByteArray) (v : Int) : Tm
  | u (op : ByteArray) (v : Int) (t : Tm) : Tm
  | b (op : ByteArray) (v : Int) (s t : Tm) : Tm
def Tm.sz : Tm → Nat
  | .l _ _ => 1
  | .u _ _ t => t.sz + 1
  | .b _ _ s t => s.sz + t.sz + 1
def Tm.dep : Tm → Int
  | .l _ _ => 0
  | .u _ _ t => t.dep + 1
  | .b _ _ s t => max (s.dep + 1) (t.dep + 1)
def Tm.ev (x0 x1 : Int) : Tm → Int
  | .l op v => if isConst op = true then v else if v = 0 then x0 else x1
  | .u op _ t => ap op (t.ev x0 x1) 0
  | .b op _ s t => ap op (s.ev x0 x1) (t.ev x0 x1)
theorem Tm.dep_nn : ∀ t : Tm, 0 ≤ t.dep
  | .l _ _ => Int.le_refl _
  | .u _ _ t => by have := t.dep_nn; unfold Tm.dep; omega
  | .b _ _ s t => by have := s.dep_nn; have := t.dep_nn; unfold Tm.dep; omega
def tm (es : List Nd) : Nat → Nat → Tm
  | 0, _ => .l ByteArray.empty 0
  | F + 1, i =>
    if ar (es.getD i zeroNd).op = 1 then .u (es.getD i zeroNd).op (es.getD i zeroNd).v (tm es F (es.getD i zeroNd).a.toNat)
    else if ar (es.getD i zeroNd).op = 2 then .b (es.getD i zeroNd).op (es.getD i zeroNd).v (tm es F (es.getD i zeroNd).a.toNat) (tm es F (es.getD i zeroNd).b.toNat)
    else .l (es.getD i zeroNd).op (es.getD i zeroNd).v
def tmE (es : List Nd) (i : Nat) : Tm := tm es (i + 1) i
theorem tm_app {xs ys : List Nd} (hok : okFrom xs 0 = true) : ∀ F G i, i < F → i < G → i < xs.length → tm (xs ++ ys) F i = tm xs G i
  | 0, _, i, h, _, _ => by omega
  | F + 1, 0, i, _, h, _ => by omega
  | F + 1, G + 1, i, hF, hG, hi => by
    have hnd := ok_get hok hi
    have e1 : (xs ++ ys).getD i zeroNd = xs[i] := by rw [List.getD_eq_getElem?_getD, List.getElem?_append_left hi, List.getElem?_eq_getElem hi]; rfl
    have ih := tm_app (xs := xs) (ys := ys) hok F G
    unfold tm
    rw [e1, getD_nd hi]
    generalize xs[i] = n at *
    rcases ar_cases_nd hnd with ⟨h1, -⟩ | ⟨h1, -, -, ha, ha', -⟩ | ⟨h1, -, -, ha, ha', hb, hb'⟩
    · simp [h1]
    · simp only [h1, if_true]
      rw [ih n.a.toNat (by omega) (by omega) (by omega)]
    · have h2 : ¬ (2 : Int) = 1 := by decide
      simp only [h1, if_true, if_neg h2]
      rw [ih n.a.toNat (by omega) (by omega) (by omega), ih n.b.toNat (by omega) (by omega) (by omega)]
theorem tm_fuel {es : List Nd} (hok : okFrom es 0 = true) {F G i : Nat} (h1 : i < F) (h2 : i < G) (h3 : i < es.length) : tm es F i = tm es G i := by
  have := tm_app (ys := []) hok F G i h1 h2 h3
  rwa [List.append_nil] at this
theorem tmE_app {xs ys : List Nd} (hok : okFrom xs 0 = true) {i : Nat} (hi : i < xs.length) : tmE (xs ++ ys) i = tmE xs i := tm_app hok _ _ _ (Nat.lt_succ_self _) (Nat.lt_succ_self _) hi
theorem tmE_cases {es : List Nd} (hok : okFrom es 0 = true) {i : Nat} (hi : i < es.length) :
    (ar es[i].op = 0 ∧ es[i].a = 0 ∧ es[i].b = 0 ∧ tmE es i = .l es[i].op es[i].v) ∨
    (ar es[i].op = 1 ∧ isOne es[i].op = true ∧ ∃ a : Nat, es[i].a = a ∧ a < i ∧ es[i].b = 0 ∧ tmE es i = .u es[i].op es[i].v (tmE es a)) ∨
    (ar es[i].op = 2 ∧ isOne es[i].op = false ∧ isTwo es[i].op = true ∧ ∃ a b : Nat, es[i].a = a ∧ es[i].b = b ∧ a < i ∧ b < i ∧ tmE es i = .b es[i].op es[i].v (tmE es a) (tmE es b)) := by
  have hnd := ok_get hok hi
  have hf : ∀ a : Nat, a < i → tm es i a = tmE es a := fun a ha => tm_fuel hok ha (Nat.lt_succ_self _) (by omega)
  have e : tmE es i = (if ar es[i].op = 1 then .u es[i].op es[i].v (tm es i es[i].a.toNat) else if ar es[i].op = 2 then .b es[i].op es[i].v (tm es i es[i].a.toNat) (tm es i es[i].b.toNat) else .l es[i].op es[i].v) := by
    show tm es (i + 1) i = _
    rw [tm, getD_nd hi]
  rw [e]
  clear e
  generalize es[i] = n at *
  rcases ar_cases_nd hnd with ⟨h1, h2, h3, h4, h5⟩ | ⟨h1, h2, h3, ha, ha', hb⟩ | ⟨h1, h2, h3, ha, ha', hb, hb'⟩
  · left; exact ⟨h1, h4, h5, by rw [if_neg (by omega), if_neg (by omega)]⟩
  · right; left
    obtain ⟨a, ea⟩ := Int.eq_ofNat_of_zero_le ha
    refine ⟨h1, h2, a, ea, by omega, hb, ?_⟩
    rw [if_pos h1, ea, Int.toNat_natCast, hf a (by omega)]
  · right; right
    obtain ⟨a, ea⟩ := Int.eq_ofNat_of_zero_le ha
    obtain ⟨b, eb⟩ := Int.eq_ofNat_of_zero_le hb
    refine ⟨h1, h2, h3, a, b, ea, eb, by omega, by omega, ?_⟩
    rw [if_neg (by omega), if_pos h1, ea, eb, Int.toNat_natCast, Int.toNat_natCast, hf a (by omega), hf b (by omega)]

/-! ### Values and depth -/
theorem ar0_in {s : ByteArray} (h : ar s = 0) (hc : isConst s = false) : isIn s = true := by
  unfold ar at h
  rw [hc, Bool.or_false] at h
  by_cases h1 : isIn s = true
  · exact h1
  · rw [if_neg h1] at h
    split at h
    · omega
    · split at h <;> omega
theorem ar12_no {s : ByteArray} (h : ¬ ar s = 0) : isConst s = false ∧ isIn s = false := by
  unfold ar at h
  cases h1 : isIn s <;> cases h2 : isConst s <;> simp [h1, h2] at h ⊢
theorem valsT {es : List Nd} (hok : okFrom es 0 = true) (x0 x1 : Int) : ∀ n, n ≤ es.length → ∀ i, i < n → (valsAt es x0 x1 n).getD i 0 = (tmE es i).ev x0 x1
  | 0, _, i, h => by omega
  | n + 1, hn, i, hi => by
    have ih := valsT hok x0 x1 n (by omega)
    rw [valsAt_succ x0 x1 (by omega), List.getD_eq_getElem?_getD]
    by_cases e : i < n
    · rw [List.getElem?_append_left (by rw [valsAt_len]; exact e), ← List.getD_eq_getElem?_getD]; exact ih i e
    · obtain rfl : i = n := by omega
      rw [List.getElem?_append_right (by rw [valsAt_len]; omega), valsAt_len, Nat.sub_self]
      show nodeVal es[i] (valsAt es x0 x1 i) x0 x1 = _
      rcases tmE_cases hok (show i < es.length by omega) with ⟨h1, _, _, e⟩ | ⟨h1, h2, a, ea, ha, hb, e⟩ | ⟨h1, h2, h3, a, b, ea, eb, ha, hb, e⟩
      · rw [e]
        unfold nodeVal Tm.ev
        cases hc : isConst es[i].op
        · rw [if_pos (ar0_in h1 hc)]
        · rfl
      · rw [e]
        obtain ⟨c1, c2⟩ := ar12_no (s := es[i].op) (by omega)
        unfold nodeVal Tm.ev
        rw [c1, c2, h2, ea, Int.toNat_natCast, ih a ha]; rfl
      · rw [e]
        obtain ⟨c1, c2⟩ := ar12_no (s := es[i].op) (by omega)
        unfold nodeVal Tm.ev
        rw [c1, c2, h2, ea, eb, Int.toNat_natCast, Int.toNat_natCast, ih a ha, ih b hb]; rfl
theorem vals_tm {es : List Nd} (hok : okFrom es 0 = true) (x0 x1 : Int) {i : Nat} (hi : i < es.length) : (vals es x0 x1).getD i 0 = (tmE es i).ev x0 x1 := valsT hok x0 x1 _ (Nat.le_refl _) i hi
theorem dstep_at {d : List Int} {i : Nat} (k : Int) (hi : i < d.length) : (dstep i d k).getD i 0 = max (d.getD i 0) (d.getD k.toNat 0 + 1) := by
  unfold dstep; rw [List.getD_eq_getElem?_getD, List.getElem?_set_self hi]; rfl
theorem dstep_ne {d : List Int} {i j : Nat} (k : Int) (h : i ≠ j) : (dstep i d k).getD j 0 = d.getD j 0 := getD_set_int _ h
theorem depT {es : List Nd} (hok : okFrom es 0 = true) : ∀ n, n ≤ es.length → (∀ i, i < n → (depAt es n).getD i 0 = (tmE es i).dep) ∧ ∀ i, n ≤ i → (depAt es n).getD i 0 = 0
  | 0, _ => ⟨fun i h => by omega, fun i _ => by
    rw [depAt, List.getD_eq_getElem?_getD, List.getElem?_replicate]; split <;> rfl⟩
  | n + 1, hn => by
    obtain ⟨i1, i2⟩ := depT hok n (by omega)
    have hnl : n < es.length := by omega
    have hl := depAt_len es n
    rw [depAt_succ hnl]
    rcases tmE_cases hok hnl with ⟨h1, _, _, e⟩ | ⟨h1, h2, a, ea, ha, hb, e⟩ | ⟨h1, h2, h3, a, b, ea, eb, ha, hb, e⟩
    · have hp : parts es[n] = [] := by
        rcases parts_two (ok_get hok hnl) with ⟨h, _⟩ | ⟨_, h, _⟩ | ⟨_, h, h', _⟩
        · exact h
        · rcases ar_cases_nd (ok_get hok hnl) with ⟨_, g, _⟩ | ⟨g, _⟩ | ⟨g, _⟩
          · rw [g] at h; cases h
          · omega
          · omega
        · rcases ar_cases_nd (ok_get hok hnl) with ⟨_, _, g, _⟩ | ⟨g, _⟩ | ⟨g, _⟩
          · rw [g] at h'; cases h'
          · omega
          · omega
      rw [hp]
      refine ⟨fun i hi => ?_, fun i hi => i2 i (by omega)⟩
      by_cases e2 : i < n
      · exact i1 i e2
      · obtain rfl : i = n := by omega
        rw [e]; exact i2 i (Nat.le_refl _)
    · have hp : parts es[n] = [(a : Int)] := by unfold parts; rw [if_pos h2, ea]
      rw [hp]
      show (∀ i, i < n + 1 → (dstep n (depAt es n) a).getD i 0 = _) ∧ ∀ i, n + 1 ≤ i → (dstep n (depAt es n) a).getD i 0 = 0
      refine ⟨fun i hi => ?_, fun i hi => by rw [dstep_ne _ (by omega)]; exact i2 i (by omega)⟩
      by_cases e2 : i < n
      · rw [dstep_ne _ (by omega)]; exact i1 i e2
      · obtain rfl : i = n := by omega
        rw [dstep_at _ (by omega), Int.toNat_natCast, i2 i (Nat.le_refl _), i1 a ha, e]
        have := (tmE es a).dep_nn
        show max 0 ((tmE es a).dep + 1) = (tmE es a).dep + 1
        omega
    · have hp : parts es[n] = [(a : Int), (b : Int)] := by unfold parts; rw [if_neg (by simp [h2]), if_pos h3, ea, eb]
      rw [hp]
      show (∀ i, i < n + 1 → (dstep n (dstep n (depAt es n) a) b).getD i 0 = _) ∧ ∀ i, n + 1 ≤ i → (dstep n (dstep n (depAt es n) a) b).getD i 0 = 0
      refine ⟨fun i hi => ?_, fun i hi => by rw [dstep_ne _ (by omega), dstep_ne _ (by omega)]; exact i2 i (by omega)⟩
      by_cases e2 : i < n
      · rw [dstep_ne _ (by omega), dstep_ne _ (by omega)]; exact i1 i e2
      · obtain rfl : i = n := by omega
        rw [dstep_at _ (by unfold dstep; rw [List.length_set]; omega), Int.toNat_natCast, dstep_ne (j := b) _ (by omega), dstep_at _ (by omega), Int.toNat_natCast, i2 i (Nat.le_refl _), i1 a ha, i1 b hb, e]
        have := (tmE es a).dep_nn
        show max (max 0 ((tmE es a).dep + 1)) ((tmE es b).dep + 1) = max ((tmE es a).dep + 1) ((tmE es b).dep + 1)
        omega
theorem depR_tm {es : List Nd} (hg : good es = true) : depR es = (tmE es (es.length - 1)).dep := by
  obtain ⟨h1, _, hok⟩ := good_len hg
  unfold depR; rw [if_pos hg]
  exact (depT hok _ (Nat.le_refl _)).1 _ (by omega)

/-! ### Sharing, told of terms -/
def shT : Tm → List Nd → List Nd × Int
  | .l op v, xs => po1 xs ⟨op, 0, 0, v⟩
  | .u op v t, xs => po1 (shT t xs).1 ⟨op, (shT t xs).2, 0, v⟩
  | .b op v s t, xs => po1 (shT t (shT s xs).1).1 ⟨op, (shT s xs).2, (shT t (shT s xs).1).2, v⟩
theorem ba_inj {s t : ByteArray} (h : s.toList = t.toList) : s = t := by
  rw [ByteArray.toList_eq, ByteArray.toList_eq] at h
  exact ByteArray.ext (Array.toList_inj.1 h)
theorem sameN_iff {x y : Nd} : sameN x y = true ↔ x = y := by
  obtain ⟨s, a, b, v⟩ := x
  obtain ⟨s', a', b', v'⟩ := y
  unfold sameN
  simp only [Bool.and_eq_true, beq_iff_eq, Nd.mk.injEq]
  constructor
  · rintro ⟨⟨⟨h1, h2⟩, h3⟩, h4⟩; exact ⟨ba_inj h1, h2, h3, h4⟩
  · rintro ⟨h1, h2, h3, h4⟩; exact ⟨⟨⟨by rw [h1], h2⟩, h3⟩, h4⟩
structure Canon (xs : List Nd) : Prop where
  ok : okFrom xs 0 = true
  once : ∀ i j, i < j → j < xs.length → xs.getD i zeroNd ≠ xs.getD j zeroNd
theorem nidx_at {xs : List Nd} (h : Canon xs) {k : Nat} (hk : k < xs.length) {y : Nd} (hy : xs.getD k zeroNd = y) : nidx xs y = k := by
  refine firstI_some hk (sameN_iff.2 hy) fun i hi => ?_
  cases hs : sameN (xs.getD i zeroNd) y
  · rfl
  · have := sameN_iff.1 hs
    exact absurd (this.trans hy.symm) (h.once i k hi hk)
theorem po_there {xs : List Nd} (h : Canon xs) {k : Nat} (hk : k < xs.length) {y : Nd} (hy : xs.getD k zeroNd = y) : po1 xs y = (xs, (k : Int)) := by
  have e := nidx_at h hk hy
  rw [po1_yes (by omega), e]
structure PoOk (xs : List Nd) (y : Nd) (R : List Nd × Int) : Prop where
  canon : Canon R.1
  pre : ∃ zs, R.1 = xs ++ zs
  grow : R.1.length = xs.length ∨ (R.1.length = xs.length + 1 ∧ R.2 = (xs.length : Int))
  idx : ∃ k : Nat, R.2 = k ∧ k < R.1.length ∧ R.1.getD k zeroNd = y
theorem po_ok {xs : List Nd} {y : Nd} (h : Canon xs) (hy : isNode y xs.length = true) : PoOk xs y (po1 xs y) := by
  by_cases h0 : 0 ≤ nidx xs y
  · rw [po1_yes h0]
    rcases firstI_cases (fun k => sameN (xs.getD k zeroNd) y) xs.length with ⟨e, _⟩ | ⟨k, hk, e, hp, _⟩
    · unfold nidx at h0; omega
    · exact ⟨h, ⟨[], by simp⟩, .inl rfl, k, e, hk, sameN_iff.1 hp⟩
  · rw [po1_no h0]
    have hn := firstI_neg.1 (show firstI (fun k => sameN (xs.getD k zeroNd) y) xs.length < 0 by unfold nidx at h0; omega)
    have hg : ∀ k, k < xs.length → (xs ++ [y]).getD k zeroNd = xs.getD k zeroNd := fun k hk => by rw [List.getD_eq_getElem?_getD, List.getElem?_append_left hk, ← List.getD_eq_getElem?_getD]
    have hl : (xs ++ [y]).getD xs.length zeroNd = y := by rw [List.getD_eq_getElem?_getD, List.getElem?_append_right (Nat.le_refl _), Nat.sub_self]; rfl
    refine ⟨⟨?_, fun i j hij hj => ?_⟩, ⟨[y], rfl⟩, .inr ⟨by simp, rfl⟩, xs.length, rfl, by simp, hl⟩
    · rw [okFrom_snoc, h.ok, Int.zero_add, hy]; rfl
    · simp only [List.length_append, List.length_cons, List.length_nil] at hj
      rw [hg i (by omega)]
      by_cases e : j < xs.length
      · rw [hg j e]; exact h.once i j hij e
      · obtain rfl : j = xs.length := by omega
        rw [hl]
        intro e2
        have := hn i hij
        simp only [sameN_iff.2 e2] at this
        cases this
theorem sh_there {xs : List Nd} (h : Canon xs) : ∀ (t : Tm) (k : Nat), k < xs.length → tmE xs k = t → shT t xs = (xs, (k : Int))
  | .l op v, k, hk, ht => by
    rcases tmE_cases h.ok hk with ⟨_, h2, h3, e⟩ | ⟨_, _, a, _, _, _, e⟩ | ⟨_, _, _, a, b, _, _, _, _, e⟩
    · rw [ht] at e; injection e with e1 e2
      unfold shT
      refine po_there h hk ?_
      rw [getD_nd hk, e1, e2]
      generalize xs[k] = n at *
      obtain ⟨p, q, r, s⟩ := n
      simp only at h2 h3; subst h2; subst h3; rfl
    · rw [ht] at e; cases e
    · rw [ht] at e; cases e
  | .u op v t, k, hk, ht => by
    rcases tmE_cases h.ok hk with ⟨_, h2, h3, e⟩ | ⟨_, _, a, ea, ha, hb, e⟩ | ⟨_, _, _, a, b, _, _, _, _, e⟩
    · rw [ht] at e; cases e
    · rw [ht] at e; injection e with e1 e2 e3
      have ih := sh_there h t a (by omega) e3.symm
      unfold shT
      rw [ih]
      refine po_there h hk ?_
      rw [getD_nd hk, e1, e2]
      generalize xs[k] = n at *
      obtain ⟨p, q, r, s⟩ := n
      simp only at ea hb; subst ea; subst hb; rfl
    · rw [ht] at e; cases e
  | .b op v s t, k, hk, ht => by
    rcases tmE_cases h.ok hk with ⟨_, h2, h3, e⟩ | ⟨_, _, a, ea, ha, hb, e⟩ | ⟨_, _, _, a, b, ea, eb, ha, hb, e⟩
    · rw [ht] at e; cases e
    · rw [ht] at e; cases e
    · rw [ht] at e; injection e with e1 e2 e3 e4
      have ih1 := sh_there h s a (by omega) e3.symm
      have ih2 := sh_there h t b (by omega) e4.symm
      unfold shT
      rw [ih1]
      simp only
      rw [ih2]
      refine po_there h hk ?_
      rw [getD_nd hk, e1, e2]
      generalize xs[k] = n at *
      obtain ⟨p, q, r, s⟩ := n
      simp only at ea eb; subst ea; subst eb; rfl
/-- A term of valid nodes. -/
def Vt : Tm → Prop
  | .l op v => ar op = 0 ∧ ∀ i : Int, isNode ⟨op, 0, 0, v⟩ i = true
  | .u op v t => ar op = 1 ∧ isOne op = true ∧ (∀ a i : Int, 0 ≤ a → a < i → isNode ⟨op, a, 0, v⟩ i = true) ∧ Vt t
  | .b op v s t => ar op = 2 ∧ isOne op = false ∧ isTwo op = true ∧ (∀ a b i : Int, 0 ≤ a → a < i → 0 ≤ b → b < i → isNode ⟨op, a, b, v⟩ i = true) ∧ Vt s ∧ Vt t
theorem isNode_place {n : Nd} {i : Int} (h : isNode n i = true) :
    (ar n.op = 0 → ∀ j : Int, isNode ⟨n.op, 0, 0, n.v⟩ j = true) ∧ (ar n.op = 1 → ∀ a j : Int, 0 ≤ a → a < j → isNode ⟨n.op, a, 0, n.v⟩ j = true) ∧ (ar n.op = 2 → ∀ a b j : Int, 0 ≤ a → a < j → 0 ≤ b → b < j → isNode ⟨n.op, a, b, n.v⟩ j = true) := by
  have hr : ∀ a j : Int, 0 ≤ a → a < j → inR a 0 (j - 1) = true := fun a j h1 h2 => (inR_iff _ _ _).2 ⟨h1, by omega⟩
  have har := ar_cases_nd h
  unfold isNode at h ⊢
  dsimp only
  by_cases h1 : isIn n.op = true
  · rw [if_pos h1] at h
    have h9 : ar n.op = 0 := by unfold ar; rw [h1]; rfl
    refine ⟨fun _ j => ?_, fun e => by omega, fun e => by omega⟩
    rw [if_pos h1]; simp only [Bool.and_eq_true] at h ⊢; exact ⟨⟨rfl, rfl⟩, h.2⟩
  · rw [if_neg h1] at h
    by_cases h2 : isConst n.op = true
    · rw [if_pos h2] at h
      have h9 : ar n.op = 0 := by unfold ar; rw [h2, Bool.or_true]; rfl
      refine ⟨fun _ j => ?_, fun e => by omega, fun e => by omega⟩
      rw [if_neg h1, if_pos h2]; simp only [Bool.and_eq_true] at h ⊢; exact ⟨⟨rfl, rfl⟩, h.2⟩
    · rw [if_neg h2] at h
      have h1' : isIn n.op = false := by simpa using h1
      have h2' : isConst n.op = false := by simpa using h2
      by_cases h3 : isOne n.op = true
      · rw [if_pos h3] at h
        have h9 : ar n.op = 1 := by unfold ar; rw [h1', h2', if_pos h3]; rfl
        refine ⟨fun e => by omega, fun _ a j ha hj => ?_, fun e => by omega⟩
        rw [if_neg h1, if_neg h2, if_pos h3]
        simp only [Bool.and_eq_true] at h ⊢; exact ⟨⟨hr a j ha hj, rfl⟩, h.2⟩
      · rw [if_neg h3] at h
        have h3' : isOne n.op = false := by simpa using h3
        simp only [Bool.and_eq_true] at h
        have h9 : ar n.op = 2 := by unfold ar; rw [h1', h2', if_neg h3, if_pos h.1.1.1]; rfl
        refine ⟨fun e => by omega, fun e => by omega, fun _ a b j ha hj hb hj2 => ?_⟩
        rw [if_neg h1, if_neg h2, if_neg h3]
        simp only [Bool.and_eq_true]; exact ⟨⟨⟨h.1.1.1, hr a j ha hj⟩, hr b j hb hj2⟩, h.2⟩
theorem tmE_vt {es : List Nd} (hok : okFrom es 0 = true) : ∀ (n i : Nat), i < n → i < es.length → Vt (tmE es i)
  | 0, i, h, _ => by omega
  | n + 1, i, h, hi => by
    have hp := isNode_place (ok_get hok hi)
    rcases tmE_cases hok hi with ⟨h1, _, _, e⟩ | ⟨h1, h2, a, ea, ha, hb, e⟩ | ⟨h1, h2, h3, a, b, ea, eb, ha, hb, e⟩
    · rw [e]; exact ⟨h1, hp.1 h1⟩
    · rw [e]; exact ⟨h1, h2, hp.2.1 h1, tmE_vt hok n a (by omega) (by omega)⟩
    · rw [e]; exact ⟨h1, h2, h3, hp.2.2 h1, tmE_vt hok n a (by omega) (by omega), tmE_vt hok n b (by omega) (by omega)⟩
structure ShT9 (xs : List Nd) (t : Tm) (R : List Nd × Int) : Prop where
  canon : Canon R.1
  pre : ∃ zs, R.1 = xs ++ zs
  idx : ∃ k : Nat, R.2 = k ∧ k < R.1.length ∧ tmE R.1 k = t ∧ (xs.length ≤ k → k + 1 = R.1.length)
  new : ∀ j, xs.length ≤ j → j < R.1.length → (tmE R.1 j).sz ≤ t.sz
  used : ∀ j, xs.length ≤ j → j < R.1.length → (j : Int) = R.2 ∨ ∃ i, i < R.1.length ∧ (j : Int) ∈ parts (R.1.getD i zeroNd)
theorem pre_len {xs zs R : List Nd} (h : R = xs ++ zs) : xs.length ≤ R.length := by rw [h, List.length_append]; omega
theorem pre_tm {xs zs R : List Nd} (hok : okFrom xs 0 = true) (h : R = xs ++ zs) {i : Nat} (hi : i < xs.length) : tmE R i = tmE xs i := by rw [h]; exact tmE_app hok hi
theorem pre_get {xs zs R : List Nd} (h : R = xs ++ zs) {i : Nat} (hi : i < xs.length) : R.getD i zeroNd = xs.getD i zeroNd := by
  rw [h, List.getD_eq_getElem?_getD, List.getElem?_append_left hi, ← List.getD_eq_getElem?_getD]
theorem sh_ok : ∀ (t : Tm), Vt t → ∀ xs, Canon xs → ShT9 xs t (shT t xs)
  | .l op v, hv, xs, hc => by
    have hv' : ar op = 0 ∧ ∀ i : Int, isNode ⟨op, 0, 0, v⟩ i = true := hv
    have P := po_ok hc (hv'.2 xs.length)
    show ShT9 xs (.l op v) (po1 xs ⟨op, 0, 0, v⟩)
    generalize po1 xs ⟨op, 0, 0, v⟩ = R at *
    obtain ⟨k, e, hk, hg⟩ := P.idx
    have ht : tmE R.1 k = .l op v := by
      rw [getD_nd hk] at hg
      rcases tmE_cases P.canon.ok hk with ⟨_, _, _, e⟩ | ⟨h1, _⟩ | ⟨h1, _⟩
      · rw [e, hg]
      · rw [hg] at h1; simp only at h1; omega
      · rw [hg] at h1; simp only at h1; omega
    have hgr := P.grow
    refine ⟨P.canon, P.pre, ⟨k, e, hk, ht, fun h => by omega⟩, fun j hj hj2 => ?_, fun j hj hj2 => .inl (by omega)⟩
    obtain rfl : j = k := by omega
    rw [ht]; exact Nat.le_refl _
  | .u op v t, hv, xs, hc => by
    obtain ⟨h1, h2, h3, h4⟩ : ar op = 1 ∧ isOne op = true ∧ (∀ a i : Int, 0 ≤ a → a < i → isNode ⟨op, a, 0, v⟩ i = true) ∧ Vt t := hv
    have S := sh_ok t h4 xs hc
    show ShT9 xs (.u op v t) (po1 (shT t xs).1 ⟨op, (shT t xs).2, 0, v⟩)
    generalize shT t xs = T at *
    obtain ⟨a, ea, ha, hta, hla⟩ := S.idx
    rw [ea]
    have P := po_ok S.canon (h3 a T.1.length (by omega) (by omega))
    generalize po1 T.1 ⟨op, (a : Int), 0, v⟩ = R at *
    obtain ⟨k, e, hk, hg⟩ := P.idx
    obtain ⟨z1, p1⟩ := S.pre
    obtain ⟨z2, p2⟩ := P.pre
    have hgr := P.grow
    have l1 := pre_len p1
    have hpt := fun {i : Nat} (hi : i < T.1.length) => pre_tm S.canon.ok p2 hi
    have ht : tmE R.1 k = .u op v t := by
      have hg2 := hg
      rw [getD_nd hk] at hg2
      rcases tmE_cases P.canon.ok hk with ⟨g1, _⟩ | ⟨_, _, a', ea', ha', _, e'⟩ | ⟨g1, _⟩
      · rw [hg2] at g1; simp only at g1; omega
      · rw [hg2] at e' ea'
        simp only at ea' e'
        obtain rfl : a' = a := by omega
        rw [e', hpt ha, hta]
      · rw [hg2] at g1; simp only at g1; omega
    have hnk : xs.length ≤ k → T.1.length ≤ k := fun h => by
      rcases Nat.lt_or_ge k T.1.length with h9 | h9
      · have := S.new k h h9
        rw [← hpt h9, ht] at this
        have this : t.sz + 1 ≤ t.sz := this
        omega
      · exact h9
    refine ⟨P.canon, ⟨z1 ++ z2, by rw [p2, p1, List.append_assoc]⟩, ⟨k, e, hk, ht, fun h => by have := hnk h; omega⟩, fun j hj hj2 => ?_, fun j hj hj2 => ?_⟩
    · rcases Nat.lt_or_ge j T.1.length with h9 | h9
      · rw [hpt h9]; have := S.new j hj h9; show _ ≤ t.sz + 1; omega
      · obtain rfl : j = k := by omega
        rw [ht]; exact Nat.le_refl _
    · rcases Nat.lt_or_ge j T.1.length with h9 | h9
      · rcases S.used j hj h9 with h8 | ⟨i, hi, hm⟩
        · right; refine ⟨k, hk, ?_⟩
          rw [hg]; unfold parts; rw [if_pos h2]; simp; omega
        · right; exact ⟨i, by omega, by rw [pre_get p2 hi]; exact hm⟩
      · left; omega
  | .b op v s t, hv, xs, hc => by
    obtain ⟨h1, h2, h2', h3, h4, h5⟩ : ar op = 2 ∧ isOne op = false ∧ isTwo op = true ∧ (∀ a b i : Int, 0 ≤ a → a < i → 0 ≤ b → b < i → isNode ⟨op, a, b, v⟩ i = true) ∧ Vt s ∧ Vt t := hv
    have S := sh_ok s h4 xs hc
    have S2 := sh_ok t h5 (shT s xs).1 S.canon
    show ShT9 xs (.b op v s t) (po1 (shT t (shT s xs).1).1 ⟨op, (shT s xs).2, (shT t (shT s xs).1).2, v⟩)
    generalize shT s xs = T at *
    generalize shT t T.1 = U at *
    obtain ⟨a, ea, ha, hta, hla⟩ := S.idx
    obtain ⟨b, eb, hb, htb, hlb⟩ := S2.idx
    obtain ⟨z1, p1⟩ := S.pre
    obtain ⟨z2, p2⟩ := S2.pre
    have l1 := pre_len p1
    have l2 := pre_len p2
    rw [ea, eb]
    have P := po_ok S2.canon (h3 a b U.1.length (by omega) (by omega) (by omega) (by omega))
    generalize po1 U.1 ⟨op, (a : Int), (b : Int), v⟩ = R at *
    obtain ⟨k, e, hk, hg⟩ := P.idx
    obtain ⟨z3, p3⟩ := P.pre
    have hgr := P.grow
    have hpt := fun {i : Nat} (hi : i < T.1.length) => pre_tm S.canon.ok p2 hi
    have hpu := fun {i : Nat} (hi : i < U.1.length) => pre_tm S2.canon.ok p3 hi
    have ht : tmE R.1 k = .b op v s t := by
      have hg2 := hg
      rw [getD_nd hk] at hg2
      rcases tmE_cases P.canon.ok hk with ⟨g1, _⟩ | ⟨g1, _⟩ | ⟨_, _, _, a', b', ea', eb', ha', hb', e'⟩
      · rw [hg2] at g1; simp only at g1; omega
      · rw [hg2] at g1; simp only at g1; omega
      · rw [hg2] at e' ea' eb'
        simp only at ea' eb' e'
        obtain rfl : a' = a := by omega
        obtain rfl : b' = b := by omega
        rw [e', hpu (show a' < U.1.length by omega), hpu hb, hpt ha, hta, htb]
    have hnk : xs.length ≤ k → U.1.length ≤ k := fun h => by
      rcases Nat.lt_or_ge k T.1.length with h9 | h9
      · have := S.new k h h9
        rw [← hpt h9, ← hpu (show k < U.1.length by omega), ht] at this
        have this : s.sz + t.sz + 1 ≤ s.sz := this
        omega
      · rcases Nat.lt_or_ge k U.1.length with h8 | h8
        · have := S2.new k h9 h8
          rw [← hpu h8, ht] at this
          have this : s.sz + t.sz + 1 ≤ t.sz := this
          omega
        · exact h8
    refine ⟨P.canon, ⟨z1 ++ z2 ++ z3, by rw [p3, p2, p1, List.append_assoc, List.append_assoc, List.append_assoc]⟩, ⟨k, e, hk, ht, fun h => by have := hnk h; omega⟩, fun j hj hj2 => ?_, fun j hj hj2 => ?_⟩
    · show _ ≤ s.sz + t.sz + 1
      rcases Nat.lt_or_ge j T.1.length with h9 | h9
      · rw [hpu (by omega), hpt h9]; have := S.new j hj h9; omega
      · rcases Nat.lt_or_ge j U.1.length with h8 | h8
        · rw [hpu h8]; have := S2.new j h9 h8; omega
        · obtain rfl : j = k := by omega
          rw [ht]; exact Nat.le_refl _
    · have hab : ∀ j : Nat, (j : Int) = a ∨ (j : Int) = b → (j : Int) ∈ parts (R.1.getD k zeroNd) := fun j h => by
        rw [hg]; unfold parts; rw [if_neg (by simp [h2]), if_pos h2']; simpa using h
      rcases Nat.lt_or_ge j T.1.length with h9 | h9
      · rcases S.used j hj h9 with h8 | ⟨i, hi, hm⟩
        · right; exact ⟨k, hk, hab j (.inl (by omega))⟩
        · right; exact ⟨i, by omega, by rw [pre_get p3 (by omega), pre_get p2 hi]; exact hm⟩
      · rcases Nat.lt_or_ge j U.1.length with h8 | h8
        · rcases S2.used j h9 h8 with h7 | ⟨i, hi, hm⟩
          · right; exact ⟨k, hk, hab j (.inr (by omega))⟩
          · right; exact ⟨i, by omega, by rw [pre_get p3 hi]; exact hm⟩
        · left; omega

/-! ### The walk that goes to each node once shares the term -/
structure OnI (es : List Nd) (s : List Nd × List Int) : Prop where
  len : s.2.length = es.length
  canon : Canon s.1
  done : ∀ j, j < es.length → 0 ≤ s.2.getD j 0 → ∃ k : Nat, s.2.getD j 0 = k ∧ k < s.1.length ∧ tmE s.1 k = tmE es j
theorem on_sh {es : List Nd} (hok : okFrom es 0 = true) : ∀ (F i : Nat) (s : List Nd × List Int), i < F → i < es.length → OnI es s → OnI es (on es F i s).1 ∧ (on es F i s).1.1 = (shT (tmE es i) s.1).1 ∧ (on es F i s).2 = (shT (tmE es i) s.1).2
  | 0, i, s, h, _, _ => by omega
  | F + 1, i, s, hi, hie, hI => by
    by_cases h0 : 0 ≤ s.2.getD i 0
    · have e : on es (F + 1) i s = (s, s.2.getD i 0) := by rw [on, if_pos h0]
      obtain ⟨k, ek, hk, ht⟩ := hI.done i hie h0
      rw [e, sh_there hI.canon _ k hk ht]
      exact ⟨hI, rfl, ek⟩
    · have hg := getD_nd hie
      have e : on es (F + 1) i s = (((po1 (woG (on es F) (es.getD i zeroNd) s).1.1 (woG (on es F) (es.getD i zeroNd) s).2).1, (woG (on es F) (es.getD i zeroNd) s).1.2.set i (po1 (woG (on es F) (es.getD i zeroNd) s).1.1 (woG (on es F) (es.getD i zeroNd) s).2).2), (po1 (woG (on es F) (es.getD i zeroNd) s).1.1 (woG (on es F) (es.getD i zeroNd) s).2).2) := by rw [on, if_neg h0]
      have hvt := tmE_vt hok (i + 1) i (Nat.lt_succ_self _) hie
      have S := sh_ok _ hvt s.1 hI.canon
      rw [e, hg]
      -- what the operands leave
      have key : OnI es (woG (on es F) es[i] s).1 ∧ po1 (woG (on es F) es[i] s).1.1 (woG (on es F) es[i] s).2 = shT (tmE es i) s.1 ∧ PoOk (woG (on es F) es[i] s).1.1 (woG (on es F) es[i] s).2 (po1 (woG (on es F) es[i] s).1.1 (woG (on es F) es[i] s).2) := by
        have hpl := isNode_place (ok_get hok hie)
        rcases tmE_cases hok hie with ⟨h1, ha0, hb0, et⟩ | ⟨h1, h2, a, ea, ha, hb, et⟩ | ⟨h1, h2, h3, a, b, ea, eb, ha, hb, et⟩
        · have ew : woG (on es F) es[i] s = (s, ⟨es[i].op, 0, 0, es[i].v⟩) := by unfold woG; rw [if_neg (by omega), if_neg (by omega)]
          rw [ew, et]
          exact ⟨hI, rfl, po_ok hI.canon (hpl.1 h1 _)⟩
        · obtain ⟨i1, i2, i3⟩ := on_sh hok F a s (by omega) (by omega) hI
          have ew : woG (on es F) es[i] s = ((on es F a s).1, ⟨es[i].op, (on es F a s).2, 0, es[i].v⟩) := by unfold woG; rw [if_pos h1, ea, Int.toNat_natCast]
          have Sa := sh_ok _ (tmE_vt hok (a + 1) a (Nat.lt_succ_self _) (by omega)) s.1 hI.canon
          obtain ⟨k, ek, hk, _⟩ := Sa.idx
          rw [ew, et]
          refine ⟨i1, ?_, ?_⟩
          · show po1 (on es F a s).1.1 ⟨es[i].op, (on es F a s).2, 0, es[i].v⟩ = _
            rw [i2, i3]; rfl
          · refine po_ok i1.canon ?_
            show isNode ⟨es[i].op, (on es F a s).2, 0, es[i].v⟩ _ = true
            rw [i3, ek]
            exact hpl.2.1 h1 k _ (by omega) (by show (k : Int) < ((on es F a s).1.1.length : Int); rw [i2]; omega)
        · obtain ⟨i1, i2, i3⟩ := on_sh hok F a s (by omega) (by omega) hI
          obtain ⟨j1, j2, j3⟩ := on_sh hok F b (on es F a s).1 (by omega) (by omega) i1
          have ew : woG (on es F) es[i] s = ((on es F b (on es F a s).1).1, ⟨es[i].op, (on es F a s).2, (on es F b (on es F a s).1).2, es[i].v⟩) := by unfold woG; rw [if_neg (by omega), if_pos h1, ea, eb, Int.toNat_natCast, Int.toNat_natCast]
          have Sa := sh_ok _ (tmE_vt hok (a + 1) a (Nat.lt_succ_self _) (by omega)) s.1 hI.canon
          rw [i2] at j2 j3
          have Sb := sh_ok _ (tmE_vt hok (b + 1) b (Nat.lt_succ_self _) (by omega)) _ Sa.canon
          obtain ⟨k, ek, hk, _⟩ := Sa.idx
          obtain ⟨m, em, hm, _⟩ := Sb.idx
          obtain ⟨z, pz⟩ := Sb.pre
          have lz := pre_len pz
          rw [ew, et]
          refine ⟨j1, ?_, ?_⟩
          · show po1 (on es F b (on es F a s).1).1.1 ⟨es[i].op, (on es F a s).2, (on es F b (on es F a s).1).2, es[i].v⟩ = _
            rw [j2, j3, i3]; rfl
          · refine po_ok j1.canon ?_
            show isNode ⟨es[i].op, (on es F a s).2, (on es F b (on es F a s).1).2, es[i].v⟩ ((on es F b (on es F a s).1).1.1.length : Int) = true
            rw [i3, j3, j2, ek, em]
            exact hpl.2.2 h1 k m _ (by omega) (by omega) (by omega) (by omega)
      obtain ⟨kI, kE, kP⟩ := key
      generalize woG (on es F) es[i] s = G at *
      rw [kE] at kP ⊢
      refine ⟨⟨?_, ?_, fun j hj hj0 => ?_⟩, rfl, rfl⟩
      · show (List.set _ _ _).length = _
        rw [List.length_set]; exact kI.len
      · exact kP.canon
      · show ∃ k : Nat, (G.1.2.set i (shT (tmE es i) s.1).2).getD j 0 = k ∧ k < (shT (tmE es i) s.1).1.length ∧ tmE (shT (tmE es i) s.1).1 k = tmE es j
        have hj1 : 0 ≤ (G.1.2.set i (shT (tmE es i) s.1).2).getD j 0 := hj0
        by_cases e9 : i = j
        · subst e9
          obtain ⟨k, ek, hk, ht, _⟩ := S.idx
          refine ⟨k, ?_, hk, ht⟩
          rw [List.getD_eq_getElem?_getD, List.getElem?_set_self (by rw [kI.len]; exact hie)]; exact ek
        · rw [getD_set_int _ e9] at hj1 ⊢
          obtain ⟨k, ek, hk, ht⟩ := kI.done j hj hj1
          obtain ⟨z, pz⟩ := kP.pre
          have := pre_len pz
          exact ⟨k, ek, Nat.lt_of_lt_of_le hk this, by rw [pre_tm kI.canon.ok pz hk]; exact ht⟩
theorem canon_nil : Canon [] := ⟨rfl, fun i j _ h => by simp at h⟩
theorem share_sh {es : List Nd} (hg : good es = true) : shareL es = (shT (tmE es (es.length - 1)) []).1 := by
  obtain ⟨h1, _, hok⟩ := good_len hg
  have hI : OnI es ([], List.replicate es.length (-1)) := ⟨by simp, canon_nil, fun j hj h0 => by
    rw [List.getD_eq_getElem?_getD, List.getElem?_replicate, if_pos hj] at h0
    exact absurd h0 (by decide)⟩
  exact (on_sh hok es.length (es.length - 1) _ (by omega) (by omega) hI).2.1
theorem shareL_le {es : List Nd} (hg : good es = true) : (shareL es).length ≤ es.length := by
  obtain ⟨h1, h24, hok⟩ := good_len hg
  have h9 := (on_inv hok es.length (es.length - 1) ([], List.replicate es.length (-1)) (by omega) (by omega) (inv_start _)).1
  have h8 : cntD _ ≤ _ := List.countP_le_length (l := (on es es.length (es.length - 1) ([], List.replicate es.length (-1))).1.2)
  have := h9.1; have := h9.2
  unfold shareL; omega
theorem nsum_ind (g : Nat → Int) (j : Nat) : ∀ n, nsum (fun k => (if k = j then (1 : Int) else 0) * g k) n = if j < n then g j else 0
  | 0 => by simp [nsum]
  | n + 1 => by
    rw [nsum, nsum_ind g j n]
    by_cases h : n = j
    · subst h; rw [if_neg (by omega), if_pos rfl, if_pos (by omega)]; omega
    · rw [if_neg h]
      by_cases h2 : j < n
      · rw [if_pos h2, if_pos (by omega)]; omega
      · rw [if_neg h2, if_neg (by omega)]; omega
theorem uses_of {es : List Nd} (hok : okFrom es 0 = true) {i j : Nat} (hi : i < es.length) (hm : (j : Int) ∈ parts es[i]) : 1 ≤ (uses es).getD j 0 := by
  have hp : ∀ k (h : k < es.length), ∀ p ∈ parts es[k], p.toNat < es.length := fun k h p hp => by have := (parts_in (ok_get hok h) p hp).2; omega
  have hU := nsum_uses (fun k => if k = j then (1 : Int) else 0) hp es.length (Nat.le_refl _)
  have hj := hp i hi _ hm
  rw [Int.toNat_natCast] at hj
  rw [nsum_ind (fun k => (usesAt es es.length).getD k 0) j, if_pos hj] at hU
  have hs : ∀ ps : List Int, 0 ≤ psum (fun k => if k = j then (1 : Int) else 0) ps := fun ps => by
    induction ps with
    | nil => exact Int.le_refl _
    | cons p ps ih =>
      simp only [psum, List.map_cons, List.sum_cons] at ih ⊢
      split <;> omega
  have hs1 : ∀ ps : List Int, (j : Int) ∈ ps → 1 ≤ psum (fun k => if k = j then (1 : Int) else 0) ps := fun ps => by
    induction ps with
    | nil => intro h; cases h
    | cons p ps ih =>
      intro h
      have h0 := hs ps
      rcases List.mem_cons.1 h with h | h
      · subst h
        simp only [psum, List.map_cons, List.sum_cons, Int.toNat_natCast, if_true] at h0 ⊢
        omega
      · have := ih h
        simp only [psum, List.map_cons, List.sum_cons] at this ⊢
        split <;> omega
  have := nsum_pos (g := fun i => psum (fun k => if k = j then (1 : Int) else 0) (parts (es.getD i zeroNd))) es.length (fun k _ => hs _) ⟨i, hi, by rw [getD_nd hi]; exact hs1 _ hm⟩
  unfold uses; omega
/-- Good is what is told of the nodes' form, their number, and of every node but the last that some node has it as an operand. -/
theorem good_of {es : List Nd} (h1 : 1 ≤ es.length) (h24 : es.length ≤ 24) (hok : okFrom es 0 = true) (hu : ∀ j, j + 1 < es.length → ∃ i, i < es.length ∧ (j : Int) ∈ parts (es.getD i zeroNd)) : good es = true := by
  unfold good
  rw [decide_eq_true h1, decide_eq_true h24, hok]
  simp only [Bool.true_and, Bool.not_eq_true']
  unfold hasI
  rw [List.any_eq_false]
  intro x hx
  obtain ⟨k, hk, rfl⟩ := List.getElem_of_mem hx
  rw [List.length_take] at hk
  rw [List.getElem_take]
  obtain ⟨i, hi, hm⟩ := hu k (by omega)
  rw [getD_nd hi] at hm
  have := uses_of hok hi hm
  rw [List.getD_eq_getElem?_getD, List.getElem?_eq_getElem (by omega)] at this
  have h9 : 1 ≤ (uses es)[k] := this
  simp only [beq_iff_eq]; omega
/-- What sharing comes to: a good expression of the same term, each node once. -/
theorem share_facts {es : List Nd} (hg : good es = true) : good (shareL es) = true ∧ tmE (shareL es) ((shareL es).length - 1) = tmE es (es.length - 1) ∧ Canon (shareL es) := by
  obtain ⟨h1, h24, hok⟩ := good_len hg
  have hle := shareL_le hg
  have S := sh_ok _ (tmE_vt hok es.length (es.length - 1) (by omega) (by omega)) [] canon_nil
  rw [share_sh hg] at hle ⊢
  generalize shT (tmE es (es.length - 1)) [] = R at *
  obtain ⟨k, ek, hk, ht, hl⟩ := S.idx
  have hl := hl (by simp)
  refine ⟨good_of (by omega) (by omega) S.canon.ok fun j hj => ?_, by rw [show R.1.length - 1 = k by omega]; exact ht, S.canon⟩
  rcases S.used j (by simp) (by omega) with h | h
  · omega
  · exact h
theorem share_share {es : List Nd} (hg : good es = true) : shareL (shareL es) = shareL es := by
  obtain ⟨h1, h2, _⟩ := share_facts hg
  rw [share_sh h1, h2, ← share_sh hg]

/-! ### The tree of an expression has its term -/
theorem tr_tm {es : List Nd} (hok : okFrom es 0 = true) : ∀ (F i : Nat) (xs : List Nd), i < F → i < es.length → okFrom xs 0 = true →
    okFrom (xs ++ tr es F xs.length i) 0 = true ∧ 1 ≤ (tr es F xs.length i).length ∧ tmE (xs ++ tr es F xs.length i) (xs.length + (tr es F xs.length i).length - 1) = tmE es i ∧
    ∀ j, xs.length ≤ j → j + 1 < xs.length + (tr es F xs.length i).length → ∃ n ∈ tr es F xs.length i, (j : Int) ∈ parts n
  | 0, i, xs, h, _, _ => by omega
  | F + 1, i, xs, hi, hie, hx => by
    have hpl := isNode_place (ok_get hok hie)
    unfold tr; simp only []; rw [getD_nd hie]
    rcases tmE_cases hok hie with ⟨h1, ha0, hb0, et⟩ | ⟨h1, h2, a, ea, ha, hb, et⟩ | ⟨h1, h2, h3, a, b, ea, eb, ha, hb, et⟩
    · rw [if_neg (by omega), if_neg (by omega), et]
      have hn := hpl.1 h1 (xs.length : Int)
      have hok2 : okFrom (xs ++ [(⟨es[i].op, 0, 0, es[i].v⟩ : Nd)]) 0 = true := by rw [okFrom_snoc, hx, Int.zero_add, hn]; rfl
      refine ⟨hok2, by simp, ?_, fun j h1 h2 => by simp at h2; omega⟩
      have hl : xs.length < (xs ++ [(⟨es[i].op, 0, 0, es[i].v⟩ : Nd)]).length := by simp
      have hg : (xs ++ [(⟨es[i].op, 0, 0, es[i].v⟩ : Nd)])[xs.length] = ⟨es[i].op, 0, 0, es[i].v⟩ := by simp
      rw [show xs.length + [(⟨es[i].op, 0, 0, es[i].v⟩ : Nd)].length - 1 = xs.length by simp]
      rcases tmE_cases hok2 hl with ⟨_, _, _, e⟩ | ⟨g, _⟩ | ⟨g, _⟩
      · rw [e, hg]
      · rw [hg] at g; simp only at g; omega
      · rw [hg] at g; simp only at g; omega
    · rw [if_pos h1, et, ea, Int.toNat_natCast]
      obtain ⟨i1, i2, i3, i4⟩ := tr_tm hok F a xs (by omega) (by omega) hx
      generalize tr es F xs.length a = la at *
      have hn := hpl.2.1 h1 (((xs.length + la.length : Nat) : Int) - 1) ((xs ++ la).length : Int) (by omega) (by rw [List.length_append]; omega)
      rw [← List.append_assoc]
      have hok2 := okFrom_snoc (xs ++ la) ⟨es[i].op, ((xs.length + la.length : Nat) : Int) - 1, 0, es[i].v⟩ 0
      rw [i1, Int.zero_add, hn] at hok2
      refine ⟨hok2, by simp, ?_, fun j hj1 hj2 => ?_⟩
      · have hl : (xs ++ la).length < (xs ++ la ++ [(⟨es[i].op, ((xs.length + la.length : Nat) : Int) - 1, 0, es[i].v⟩ : Nd)]).length := by simp
        have hg : (xs ++ la ++ [(⟨es[i].op, ((xs.length + la.length : Nat) : Int) - 1, 0, es[i].v⟩ : Nd)])[(xs ++ la).length] = ⟨es[i].op, ((xs.length + la.length : Nat) : Int) - 1, 0, es[i].v⟩ := by
          rw [List.getElem_append_right (Nat.le_refl _)]; simp
        rw [show xs.length + (la ++ [(⟨es[i].op, ((xs.length + la.length : Nat) : Int) - 1, 0, es[i].v⟩ : Nd)]).length - 1 = (xs ++ la).length by first | (simp; done) | (simp; omega)]
        rcases tmE_cases hok2 hl with ⟨g, _⟩ | ⟨_, _, a', ea', ha', _, e⟩ | ⟨g, _⟩
        · rw [hg] at g; simp only at g; omega
        · rw [hg] at e ea'
          simp only at e ea'
          obtain rfl : a' = xs.length + la.length - 1 := by omega
          rw [e, tmE_app i1 (by rw [List.length_append]; omega), i3]
        · rw [hg] at g; simp only at g; omega
      · simp only [List.length_append, List.length_cons, List.length_nil] at hj2
        by_cases h9 : j + 1 < xs.length + la.length
        · obtain ⟨n, hn1, hn2⟩ := i4 j hj1 h9
          exact ⟨n, by simp [hn1], hn2⟩
        · refine ⟨_, by simp; right; rfl, ?_⟩
          unfold parts; rw [if_pos h2]; simp; omega
    · rw [if_neg (by omega), if_pos h1, et, ea, eb, Int.toNat_natCast, Int.toNat_natCast]
      obtain ⟨i1, i2, i3, i4⟩ := tr_tm hok F a xs (by omega) (by omega) hx
      generalize tr es F xs.length a = la at *
      obtain ⟨j1, j2, j3, j4⟩ := tr_tm hok F b (xs ++ la) (by omega) (by omega) i1
      rw [List.length_append] at j1 j2 j3 j4
      generalize tr es F (xs.length + la.length) b = lb at *
      have hn := hpl.2.2 h1 (((xs.length + la.length : Nat) : Int) - 1) (((xs.length + la.length + lb.length : Nat) : Int) - 1) ((xs ++ la ++ lb).length : Int) (by omega) (by simp only [List.length_append]; omega) (by omega) (by simp only [List.length_append]; omega)
      rw [← List.append_assoc, ← List.append_assoc]
      have hok2 := okFrom_snoc (xs ++ la ++ lb) ⟨es[i].op, ((xs.length + la.length : Nat) : Int) - 1, ((xs.length + la.length + lb.length : Nat) : Int) - 1, es[i].v⟩ 0
      rw [j1, Int.zero_add, hn] at hok2
      refine ⟨hok2, by simp; omega, ?_, fun j hj1 hj2 => ?_⟩
      · have hl : (xs ++ la ++ lb).length < (xs ++ la ++ lb ++ [(⟨es[i].op, ((xs.length + la.length : Nat) : Int) - 1, ((xs.length + la.length + lb.length : Nat) : Int) - 1, es[i].v⟩ : Nd)]).length := by simp
        have hg : (xs ++ la ++ lb ++ [(⟨es[i].op, ((xs.length + la.length : Nat) : Int) - 1, ((xs.length + la.length + lb.length : Nat) : Int) - 1, es[i].v⟩ : Nd)])[(xs ++ la ++ lb).length] = ⟨es[i].op, ((xs.length + la.length : Nat) : Int) - 1, ((xs.length + la.length + lb.length : Nat) : Int) - 1, es[i].v⟩ := by
          rw [List.getElem_append_right (Nat.le_refl _)]; simp
        rw [show xs.length + (la ++ lb ++ [(⟨es[i].op, ((xs.length + la.length : Nat) : Int) - 1, ((xs.length + la.length + lb.length : Nat) : Int) - 1, es[i].v⟩ : Nd)]).length - 1 = (xs ++ la ++ lb).length by first | (simp; done) | (simp; omega)]
        rcases tmE_cases hok2 hl with ⟨g, _⟩ | ⟨g, _⟩ | ⟨_, _, _, a', b', ea', eb', ha', hb', e⟩
        · rw [hg] at g; simp only at g; omega
        · rw [hg] at g; simp only at g; omega
        · rw [hg] at e ea' eb'
          simp only at e ea' eb'
          obtain rfl : a' = xs.length + la.length - 1 := by omega
          obtain rfl : b' = xs.length + la.length + lb.length - 1 := by omega
          rw [e, tmE_app j1 (by simp only [List.length_append]; omega), tmE_app j1 (by simp only [List.length_append]; omega), j3, tmE_app i1 (by rw [List.length_append]; omega), i3]
      · simp only [List.length_append, List.length_cons, List.length_nil] at hj2
        by_cases h9 : j + 1 < xs.length + la.length
        · obtain ⟨n, hn1, hn2⟩ := i4 j hj1 h9
          exact ⟨n, by simp [hn1], hn2⟩
        · by_cases h8 : j + 1 = xs.length + la.length
          · refine ⟨_, by simp; right; right; rfl, ?_⟩
            unfold parts; rw [if_neg (by simp [h2]), if_pos h3]; simp; omega
          · by_cases h7 : j + 1 < xs.length + la.length + lb.length
            · obtain ⟨n, hn1, hn2⟩ := j4 j (by omega) h7
              exact ⟨n, by simp [hn1], hn2⟩
            · refine ⟨_, by simp; right; right; rfl, ?_⟩
              unfold parts; rw [if_neg (by simp [h2]), if_pos h3]; simp; omega
theorem ts_sz {es : List Nd} (hok : okFrom es 0 = true) : ∀ (F i : Nat), i < F → i < es.length → ts es F i = ((tmE es i).sz : Int)
  | 0, i, h, _ => by omega
  | F + 1, i, hi, hie => by
    have ih := ts_sz hok F
    unfold ts
    rw [getD_nd hie]
    have hp2 := parts_two (ok_get hok hie)
    rcases tmE_cases hok hie with ⟨h1, ha0, hb0, et⟩ | ⟨h1, h2, a, ea, ha, hb, et⟩ | ⟨h1, h2, h3, a, b, ea, eb, ha, hb, et⟩
    · have hp : parts es[i] = [] := by
        rcases ar_cases_nd (ok_get hok hie) with ⟨_, g, g2, _⟩ | ⟨g, _⟩ | ⟨g, _⟩
        · unfold parts; rw [g, g2]; rfl
        · omega
        · omega
      rw [hp, et]; rfl
    · have hp : parts es[i] = [(a : Int)] := by unfold parts; rw [if_pos h2, ea]
      rw [hp, et]
      simp only [psum, List.map_cons, List.map_nil, List.sum_cons, List.sum_nil, Int.toNat_natCast]
      rw [ih a (by omega) (by omega)]
      show _ = (((tmE es a).sz + 1 : Nat) : Int)
      omega
    · have hp : parts es[i] = [(a : Int), (b : Int)] := by unfold parts; rw [if_neg (by simp [h2]), if_pos h3, ea, eb]
      rw [hp, et]
      simp only [psum, List.map_cons, List.map_nil, List.sum_cons, List.sum_nil, Int.toNat_natCast]
      rw [ih a (by omega) (by omega), ih b (by omega) (by omega)]
      show _ = ((((tmE es a).sz + (tmE es b).sz + 1 : Nat)) : Int)
      omega
/-- What expanding comes to: a tree of the same term. -/
theorem expand_facts {es : List Nd} (h : expandOk es = true) : good (expandL es) = true ∧ tmE (expandL es) ((expandL es).length - 1) = tmE es (es.length - 1) ∧ tree (expandL es) = true := by
  unfold expandOk at h
  rw [Bool.and_eq_true] at h
  obtain ⟨hg, h24⟩ := h
  have h24 := of_decide_eq_true h24
  obtain ⟨h1, _, hok⟩ := good_len hg
  obtain ⟨i1, i2, i3, i4⟩ := tr_tm hok es.length (es.length - 1) [] (by omega) (by omega) rfl
  have hsz := ts_sz hok es.length (es.length - 1) (by omega) (by omega)
  have htr := tr_ts hok es.length 0 (es.length - 1) (by omega) (by omega)
  simp only [List.length_nil, List.nil_append, Nat.zero_add] at i1 i2 i3 i4
  unfold expandL at h24 ⊢
  generalize tr es es.length 0 (es.length - 1) = E at *
  have hgE : good E = true := good_of i2 h24 i1 fun j hj => by
    obtain ⟨n, hn, hm⟩ := i4 j (by omega) hj
    obtain ⟨q, hq, rfl⟩ := List.getElem_of_mem hn
    exact ⟨q, hq, by rw [getD_nd hq]; exact hm⟩
  refine ⟨hgE, i3, ?_⟩
  cases ht : tree E
  · have h9 := (tree_size hgE).2 ht
    have h8 := tr_ts i1 E.length 0 (E.length - 1) (by omega) (by omega)
    have h7 := ts_sz i1 E.length (E.length - 1) (by omega) (by omega)
    rw [i3] at h7
    unfold expandL at h9
    omega
  · rfl
theorem share_expand {es : List Nd} (h : expandOk es = true) : shareL (expandL es) = shareL es := by
  have hg : good es = true := by unfold expandOk at h; rw [Bool.and_eq_true] at h; exact h.1
  obtain ⟨h1, h2, _⟩ := expand_facts h
  rw [share_sh h1, h2, ← share_sh hg]
end Go.Proofs.Ytmhdijklindipaa
