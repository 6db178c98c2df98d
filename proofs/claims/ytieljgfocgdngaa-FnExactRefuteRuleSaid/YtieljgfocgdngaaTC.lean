import Derived.Test.YtieljgfocgdngaaTB
import Derived.Lib.JoinLaws
import Derived.Lib.AppendZeros
namespace Go.Proofs.Ytieljgfocgdngaa
open Go.RowKit
set_option linter.unusedVariables false
set_option maxRecDepth 100000

/-- One int appended where there is room. -/
theorem append_room_int {w : World} {g r : Nat} {xs : List Int} (hib : IB w g 3 (xs ++ zeros (r + 1))) (ty : TypeId) (cap : Nat) (hcap : xs.length + 1 ≤ cap) (a : Nat) (x : Int) (ha : w.cell? ⟨a, 0, none⟩ = some (.int .i64 x)) :
    (Builtin.append_ #[76, 76] ty #[.slice (some ⟨g, 0, none⟩) xs.length cap, .slice (some ⟨a, 0, none⟩) 1 1]).run Try.prog w = .ok (.slice (some ⟨g, 0, none⟩) (xs.length + 1) cap) (w.setCell ⟨g, xs.length, none⟩ (.int .i64 x)) := by
  obtain ⟨i0, hi, hz0, hz1, hz2⟩ := info_parts Try.infoInt
  have h := run_append_room_cells (P := Try.prog) (w := w) 76 ty 3 i0 Try.underlying76 hi g 0 xs.length cap ⟨a, 0, none⟩ 1 1 [.int .i64 x] (by rw [hz1]; rfl)
    (fun j u hj => by
      match j, hj with
      | 0, hj => simp at hj; subst hj; simpa [Addr.add] using ha)
    (one1 x) hcap
    (fun j hj => by
      obtain rfl : j = 0 := by simpa using hj
      rw [hz1, Nat.zero_add, Nat.mul_one, Nat.add_zero, hib.cell xs.length (by simp [zeros])]; rfl)
    (fun j hj => hib.frozen _)
  rw [hz1, Nat.zero_add, Nat.mul_one] at h
  exact h
theorem room_set {w : World} {g r : Nat} {xs : List Int} (h : IB w g 3 (xs ++ zeros (r + 1))) (x : Int) : IB (w.setCell ⟨g, xs.length, none⟩ (.int .i64 x)) g 3 ((xs ++ [x]) ++ zeros r) := by
  have := h.set xs.length x
  rwa [List.set_append_right _ _ (Nat.le_refl _), Nat.sub_self, show zeros (r + 1) = 0 :: zeros r from rfl, List.set_cons_zero, List.append_cons] at this
theorem room_ow {w : World} {g r lo hi : Nat} {xs : List Int} (h : IB w g 3 (xs ++ zeros r)) (hlo : lo ≤ g) (hhi : g < hi) (hl : xs.length + r ≤ 1000000) : OW w lo hi (.slice (some ⟨g, 0, none⟩) xs.length (xs.length + r)) xs :=
  ⟨⟨by simp, .inr ⟨g, xs.length + r, intCells (xs ++ zeros r), rfl, hlo, h, by omega, by unfold maxLen; omega, by simp [intCells, zeros], by simp [intCells]⟩⟩,
   fun k hk => by simp [Value.ownBlock] at hk; omega⟩

theorem IB.other {w : World} {g q : Nat} {t : TypeId} {xs : List Int} (h : IB w g t xs) (j : Nat) (x : Value) (hne : q ≠ g) : IB (w.setCell ⟨q, j, none⟩ x) g t xs :=
  (Below.heap_setCell w ⟨q, j, none⟩ x g (by simpa using fun e => hne e.symm)).trans h

set_option maxHeartbeats 8000000 in
theorem iTableOf_any (L B : Nat) (A : Option Addr) (c : Nat) (es : List Nd) (w : World) (hl : es.length ≤ 1048576) (hes : NS w L B A es) (hB : B ≤ w.heap.size) :
    Calls Try.prog 112 #[.slice A es.length c] w (IntsRes w (tabR es) (good es)) := by
  have H := Lib.hid (IsExpr_any L B A c es w hl hes hB)
  have hE := Lib.hid hes
  have hBB := Lib.hid hB
  clear hes hB
  have hmk0 : ∀ W : World, (Instr.makeSlice 76 (.int .i64 0) (.int .i64 4096)).run Try.prog W = .ok (.slice (some ⟨W.heap.size, 0, none⟩) 0 4096) (W.alloc (.cells (madeCells #[.int .i64 0] 4096) 3)) := fun W => run_make_room (P := Try.prog) 76 3 (.int .i64 0) 8 Try.underlying76 Try.infoInt rfl .i64 .i64 4096 (by omega) (by omega) W
  have hmk := run_make_ints es.length hl
  cases hg : good es
  · have hR2 : Hid (tabR es = []) := by simp [Hid, tabR, hg]
    rw [hg] at H
    clear hg
    go_enter Try.func112, Try.ntmps112
    go_wp2_with (fail)
    refine H.out.mono ?_
    rintro e w2 ⟨rfl, hb⟩
    go_wp2_with (fail)
    go_ret2
    refine ⟨none, 0, ?_, ?_, hb⟩
    · rw [hR2.out]; rfl
    · rw [hR2.out]; exact OW.nil _ _ _
  have hR2 : Hid (tabR es = tab es) := by simp [Hid, tabR, hg]
  obtain ⟨hl1, hl24, hok⟩ := good_len hg
  have hOk := Lib.hid hok
  rw [hg] at H
  clear hg hok
  have hes' := fun (W : World) (hW : Below w.heap.size w W) => hE.out.below hW hBB.out
  have hF := Lib.hid (fun (x0 x1 gv cg : Nat) (xs : List Int) (W : World) (hW : Below w.heap.size w W) (hv : w.heap.size ≤ gv) (hib : IB W gv 3 xs) (hxl : xs.length = es.length) (hw : AllW xs) (h0 : x0 < 64) (h1 : x1 < 64) =>
    fillValues_eq L B A c es.length cg es gv xs (x0 : Int) (x1 : Int) W hxl.symm hl24 (hes' W hW) (Nat.le_trans hBB.out hv) hxl hib hw hOk.out ⟨by omega, by omega⟩ ⟨by omega, by omega⟩)
  clear hes'
  obtain ⟨m, hm⟩ : ∃ m, es.length = m + 1 := ⟨es.length - 1, by omega⟩
  have hM := Lib.hid hm
  have hvl : ∀ x0 x1, Hid ((vals es x0 x1).length = es.length) := fun x0 x1 => vals_len _ _ _
  have hat : ∀ x0 x1, Hid (at2 es x0 x1 = (vals es x0 x1).getD m 0) := fun x0 x1 => by rw [Hid, at2, hM.out, Nat.add_sub_cancel]
  have hAT := Lib.hid hat
  clear hat
  have hml : m < es.length := by omega
  have hw2 := Lib.hid (show (es.length : Int) - 1 = m by omega)
  clear hm
  go_enter Try.func112, Try.ntmps112
  go_wp2_with (fail)
  refine H.out.mono ?_
  rintro e w2 ⟨rfl, hb2⟩
  have hB2 := Lib.hid hb2
  have hz2 := Lib.hid hb2.size
  clear hb2
  have hT0 : Hid (IB (w2.alloc (.cells (madeCells #[.int .i64 0] 4096) 3)) w2.heap.size 3 (tabTo (at2 es) (64 * 0 + 0) ++ zeros (4096 - (64 * 0 + 0)))) := by
    have h1 : madeCells #[Value.int .i64 0] 4096 = intCells (zeros 4096) := by
      apply Array.ext'
      rw [intCells, zeros, List.map_replicate]
      exact toList_madeCells_one _ _
    rw [h1]
    exact heap_alloc_new w2 _
  have hB3 := Lib.hid (hB2.out.alloc hz2.out (.cells (madeCells #[.int .i64 0] 4096) 3))
  generalize madeCells #[Value.int .i64 0] 4096 = mc at *
  have hT1 := Lib.hid (hT0.out.below ((Below.refl _ _).alloc (Nat.le_refl _) (.cells (intCells (zeros es.length)) 3)) hT0.out.lt)
  have hV1 : Hid (IB ((w2.alloc (.cells mc 3)).alloc (.cells (intCells (zeros es.length)) 3)) (w2.heap.size + 1) 3 (zeros es.length)) := by
    have := heap_alloc_new (w2.alloc (.cells mc 3)) (.cells (intCells (zeros es.length)) 3)
    rwa [World.size_alloc] at this
  have hB4 := Lib.hid (hB3.out.alloc hB3.out.size (.cells (intCells (zeros es.length)) 3))
  have hT2 : Hid (IB ((w2.alloc (.cells mc 3)).alloc (.cells (intCells (zeros es.length)) 3)) w2.heap.size 3 (tabTo (at2 es) (64 * 0 + 0) ++ zeros (4096 - (64 * 0 + 0)))) := hT1.out
  have hgz := hz2.out
  have hxz : (zeros es.length).length = es.length := by simp [zeros]
  have hXZ := Lib.hid hxz
  clear hxz hT0 hT1 hB3
  go_wp2
  generalize hW0 : (w2.alloc (.cells mc 3)).alloc (.cells (intCells (zeros es.length)) 3) = W0 at *
  generalize hg0 : w2.heap.size = g at *
  clear hW0 hg0 hmk hmk0
  go_loopw [4, 15] (fun v i wr => ∃ k : Nat, k ≤ 64 ∧ i = .int .i64 k ∧ v = .slice (some ⟨g, 0, none⟩) (64 * k + 0) 4096 ∧ IB wr g 3 (tabTo (at2 es) (64 * k + 0) ++ zeros (4096 - (64 * k + 0))) ∧ (∃ xs : List Int, (xs.length = es.length ∧ AllW xs) ∧ IB wr (g + 1) 3 xs) ∧ Below w.heap.size w wr) (fun _ i _ => 64 - (intOf i).toNat)
  case atStart => exact ⟨0, Nat.zero_le _, rfl, rfl, hT2.out, ⟨_, ⟨hXZ.out, AllW.zeros _⟩, hV1.out⟩, hB4.out⟩
  case round =>
    obtain ⟨k, hk, rfl, rfl, hib, ⟨xs, hxs, hiv⟩, hbel⟩ := hrel
    have hIB := Lib.hid hib
    have hIV := Lib.hid (And.intro hxs hiv)
    have hBL := Lib.hid hbel
    clear hib hxs hiv hbel
    by_cases hlt : k < 64
    · obtain ⟨wo, hwo⟩ : ∃ wo : World, wo = wr := ⟨_, rfl⟩
      rw [← hwo] at hIB hIV hBL ⊢
      clear hwo
      have hk64 : (k : Int) < 64 := by omega
      have hd64 : decide ((k : Int) < 64) = true := by simpa using hk64
      go_wp2
      go_loopw [4, 18] (fun v j wr => ∃ n : Nat, n ≤ 64 ∧ j = .int .i64 n ∧ v = .slice (some ⟨g, 0, none⟩) (64 * k + n) 4096 ∧ IB wr g 3 (tabTo (at2 es) (64 * k + n) ++ zeros (4096 - (64 * k + n))) ∧ (∃ xs : List Int, (xs.length = es.length ∧ AllW xs) ∧ IB wr (g + 1) 3 xs) ∧ Below w.heap.size w wr) (fun _ j _ => 64 - (intOf j).toNat)
      case atStart => exact ⟨0, Nat.zero_le _, rfl, rfl, hIB.out, ⟨_, hIV.out⟩, hBL.out⟩
      case round =>
        obtain ⟨n, hn, rfl, rfl, hib, ⟨ys, hys, hiv⟩, hbel⟩ := hrel
        have hJB := Lib.hid hib
        have hJV := Lib.hid (And.intro hys hiv)
        have hCL := Lib.hid hbel
        clear hib hys hiv hbel
        by_cases hlt2 : n < 64
        · have hn64 : (n : Int) < 64 := by omega
          have hdn64 : decide ((n : Int) < 64) = true := by simpa using hn64
          go_wp2_with (fail)
          refine (hF.out k n (g + 1) _ ys _ hCL.out (by omega) hJV.out.2 hJV.out.1.1 hJV.out.1.2 hlt hlt2).mono ?_
          rintro e w3 ⟨rfl, hi3, hg3⟩
          have hgz3 := hg3.size
          have hCZ := hCL.out.size
          have hJ3 : Hid (IB w3 g 3 (tabTo (at2 es) (64 * k + n) ++ zeros (4096 - (64 * k + n)))) := (hg3.block g hJB.out.lt (fun e => by injection e with e; omega)).trans hJB.out
          have hI3 := Lib.hid hi3
          have hC3 := Lib.hid (hCL.out.grown hg3 hCZ (fun q hq => by injection hq with hq; omega))
          have hcm : w3.cell? ⟨g + 1, m, none⟩ = some (.int .i64 (at2 es k n)) := by
            rw [(hAT.out k n).out, hi3.cell m (by rw [(hvl k n).out]; omega), List.getD_eq_getElem?_getD, List.getElem?_eq_getElem (by rw [(hvl k n).out]; omega)]; rfl
          have hTL := Lib.hid (tabTo_len (at2 es) (64 * k + n))
          have hS := Lib.hid (tabTo_succ (at2 es) k n hlt2)
          have hvl' := Lib.hid (And.intro (hvl k n).out (valsAt_W hOk.out ⟨by omega, by omega⟩ ⟨by omega, by omega⟩ (Nat.le_refl _) : AllW (vals es (k : Int) (n : Int))))
          clear hi3 hg3
          generalize tabTo (at2 es) (64 * k + n) = zs at *
          generalize at2 es k n = x at *
          obtain ⟨r, hr⟩ : ∃ r, 4096 - (64 * k + n) = r + 1 := ⟨4096 - (64 * k + n) - 1, by omega⟩
          have hr2 : Hid (4096 - (64 * k + (n + 1)) = r) := by simp only [Hid]; omega
          rw [hr] at hJ3
          have hJ4 := Lib.hid (hJ3.out.below ((Below.refl w3.heap.size w3).alloc (Nat.le_refl _) (.cells #[.int .i64 x] 3)) hJ3.out.lt)
          have hap := Lib.hid (fun ty => append_room_int hJ4.out ty 4096 (by rw [hTL.out]; omega) w3.heap.size x (by simp))
          have hst := Lib.hid (room_set hJ4.out x)
          have hsv := Lib.hid (((hI3.out.below ((Below.refl w3.heap.size w3).alloc (Nat.le_refl _) (.cells #[.int .i64 x] 3)) hI3.out.lt)))
          have hCf := Lib.hid ((hC3.out.alloc hC3.out.size (.cells #[.int .i64 x] 3)).setCell (p := ⟨g, zs.length, none⟩) (by show w.heap.size ≤ g; omega) (.int .i64 x))
          rw [hTL.out] at hap hst hCf
          clear hr
          have hw3 := hw2.out
          go_wp2_with (at_builtin; refine Lib.wpList_append_run _ rfl _ _ _ _ rfl _ _ rfl rfl _ _ (hap.out _) ?_)
          go_roundw
          case rel => exact ⟨n + 1, by omega, by go_num, rfl, by rw [hS.out, hr2.out]; exact hst.out, ⟨_, hvl'.out, IB.other hsv.out _ _ (by omega)⟩, hCf.out⟩
          case measure => simp [intOf]; omega
        · obtain rfl : n = 64 := by omega
          rw [tabTo_next] at hJB
          go_wp2
          go_roundw
          case rel => exact ⟨k + 1, by omega, by go_num, rfl, hJB.out, ⟨_, hJV.out⟩, hCL.out⟩
          case measure => simp [intOf]; omega
    · obtain rfl : k = 64 := by omega
      have hfin := Lib.hid (room_ow (lo := w.heap.size) (hi := wr.heap.size) (r := 0) hIB.out (by omega) hIB.out.lt (by rw [tabTo_len]; omega))
      rw [tabTo_len] at hfin
      go_wp2
      go_ret2
      rw [hR2.out]
      exact ⟨_, _, by unfold tab; rw [tabTo_len]; rfl, by unfold tab; rw [tabTo_len]; exact hfin.out, hBL.out⟩

end Go.Proofs.Ytieljgfocgdngaa
