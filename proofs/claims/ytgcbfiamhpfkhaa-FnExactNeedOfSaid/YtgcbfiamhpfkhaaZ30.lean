/- Texts of this proof, one behind the other: BA, BF, BE, BG, OC, ON. -/
import Derived.Test.YtgcbfiamhpfkhaaAG
import Derived.Test.YtgcbfiamhpfkhaaZ33
import Derived.Test.YtgcbfiamhpfkhaaZ31
import Derived.WalkKit
import Derived.WalkSpells
import Derived.WalkLawsBesides
import Derived.Deep.RegionLaw
import Derived.Lib.Hide
import Derived.Test.YtgcbfiamhpfkhaaZ11
import Derived.Test.YtgcbfiamhpfkhaaZ32
import Derived.Test.YtgcbfiamhpfkhaaBD
import Derived.OrdersHeld
import Derived.Test.YtgcbfiamhpfkhaaLawCC
import Derived.Test.YtgcbfiamhpfkhaaZ17
import Derived.ProofKit
import Derived.OpenShut
import Derived.ShutString
import Derived.ChangeOld
import Derived.Below
import Derived.Deep.Slices
import Derived.Deep.Fields
import Derived.Test.YtgcbfiamhpfkhaaKMNode
/- Needs of the model. -/
namespace Go.Proofs.Ytgcbfiamhpfkhaa
open Go.RowKit
set_option linter.unusedVariables false
set_option maxRecDepth 100000

theorem mostN_any (a b : Int) (w : World) : Calls Try.prog 98 #[.int .i64 a, .int .i64 b] w fun e w' => e = .returned (.int .i64 (max a b)) ∧ w = w' := by
  by_cases h : b < a
  · have hR : Hid (max a b = a) := by unfold Hid; omega
    go_enter Try.func98, Try.ntmps98
    go_wp2
    go_ret
    exact ⟨ret_int hR.out.symm, rfl⟩
  · have hR : Hid (max a b = b) := by unfold Hid; omega
    go_enter Try.func98, Try.ntmps98
    go_wp2
    go_ret
    exact ⟨ret_int hR.out.symm, rfl⟩
theorem leastN_any (a b : Int) (w : World) : Calls Try.prog 133 #[.int .i64 a, .int .i64 b] w fun e w' => e = .returned (.int .i64 (min a b)) ∧ w = w' := by
  by_cases h : a < b
  · have hR : Hid (min a b = a) := by unfold Hid; omega
    go_enter Try.func133, Try.ntmps133
    go_wp2
    go_ret
    exact ⟨ret_int hR.out.symm, rfl⟩
  · have hR : Hid (min a b = b) := by unfold Hid; omega
    go_enter Try.func133, Try.ntmps133
    go_wp2
    go_ret
    exact ⟨ret_int hR.out.symm, rfl⟩
theorem seBoth_any (a b : Int) (w : World) (ha : -1 ≤ a ∧ a ≤ 24) (hb : -1 ≤ b ∧ b ≤ 24) : Calls Try.prog 134 #[.int .i64 a, .int .i64 b] w fun e w' => e = .returned (.int .i64 (seB a b)) ∧ w = w' := by
  by_cases h : 0 < a
  · have hR : Hid (seB a b = max 1 (max a (b + 1))) := by unfold Hid seB; rw [if_pos h]
    have hw : IntKind.i64.wrap (b + 1) = b + 1 := by rw [IntKind.wrap_i64]; omega
    go_enter Try.func134, Try.ntmps134
    go_wp2_with (go_at_call 98; (with_reducible refine (mostN_any _ _ _).mono ?_); rintro e w' ⟨rfl, rfl⟩)
    go_ret
    exact ⟨ret_int hR.out.symm, rfl⟩
  · have hR : Hid (seB a b = max 1 (max a (b + 0))) := by unfold Hid seB; rw [if_neg h]
    have hw : IntKind.i64.wrap (b + 0) = b + 0 := by rw [IntKind.wrap_i64]; omega
    have hw2 : IntKind.i64.wrap b = b := by rw [IntKind.wrap_i64]; omega
    have h0 : Hid (b + 0 = b) := Int.add_zero b
    rw [h0.out] at hR
    go_enter Try.func134, Try.ntmps134
    go_wp2_with (go_at_call 98; (with_reducible refine (mostN_any _ _ _).mono ?_); rintro e w' ⟨rfl, rfl⟩)
    go_ret
    exact ⟨ret_int hR.out.symm, rfl⟩
theorem mt_zero {es : List Nd} {nd : Nd} {x : Ti} (h : mt es nd 0 = some x) : x.ps = [] := by
  simp only [mt] at h
  split at h
  · injection h with h; subst h; rfl
  · cases h
theorem tOf_zero {es : List Nd} {k : Nat} {t : Int} {x : Ti} (h : tOf es (k : Int) t = some x) (h0 : x.num = 0) : x.ps = [] := by
  have hk : tokR es (k : Int) t = true := by unfold tokR; rw [h]; rfl
  obtain ⟨j, n, hj, e1, e2, hn, hok, hl, hm⟩ := tok_parts hk
  rw [h] at hm
  have hn0 := mt_num hm.symm
  obtain rfl : n = 0 := by omega
  exact mt_zero hm.symm

set_option maxHeartbeats 8000000 in
theorem seNeeds_any (L B L' B' : Nat) (A A' : Option Addr) (c c' : Nat) (es : List Nd) (nums : List Int) (out : List Ti) (w : World) (h : tocR es nums = some out) (hes : NS w L B A es) (hB : B ≤ w.heap.size) (hns : IS w L' B' A' nums) (hB' : B' ≤ w.heap.size) :
    Calls Try.prog 77 #[.slice A es.length c, .slice A' es.length c', .bool false] w (OwnIs w (ndTo es nums es.length)) := by
  obtain ⟨ht, hln, _⟩ := tocR_some h
  have hg : good es = true := by unfold treeR at ht; simp only [Bool.and_eq_true] at ht; exact ht.1
  obtain ⟨hl1, hl24, hok⟩ := good_len hg
  have HN := Lib.hid fun (W : World) => cvNone_any A c es.length W hl24
  have HT := Lib.hid fun (k : Nat) (hk : k < es.length) (hn : nums.getD k 0 ≠ -1) (W : World) (hW : Below w.heap.size w W) => (show Calls Try.prog 73 #[.slice A es.length c, .int .i64 (k : Int), .int .i64 (nums.getD k 0)] W (TileM W (some (tD es nums k))) from by
    have hx := (cover_parts h hk hn).1
    have hk' : tokR es (k : Int) (nums.getD k 0) = true := by unfold tokR; rw [hx]; rfl
    obtain ⟨j, n, hj, e1, e2, hn13, hok, hl, hm⟩ := tok_parts hk'
    obtain rfl : k = j := by omega
    rw [hx] at hm
    rw [e2, hm]; exact cvTile_n L B A c es k hk n hn13 W (hes.below hW hB) (Nat.le_trans hB hW.size) hok)
  have HX := Lib.hid fun (k : Nat) (hk : k < es.length) (hn : nums.getD k 0 ≠ -1) => (show (tD es nums k).num = nums.getD k 0 ∧ ((tD es nums k).num = 0 → (tD es nums k).ps = []) ∧ (tD es nums k).ps.length ≤ 2 ∧ (∀ p ∈ (tD es nums k).ps, 0 ≤ p ∧ p < (k : Int)) from by
    have hx := (cover_parts h hk hn).1
    exact ⟨tOf_num hx, tOf_zero hx, (tOf_ps hx).2.1, (tOf_ps hx).1⟩)
  have HL := Lib.hid fun (k : Nat) (hk : k < es.length) => cover_low h hk
  have HB := Lib.hid fun (k : Nat) (hk : k ≤ es.length) (i : Nat) (hi : i < es.length) => ndTo_bd h k hk i hi
  have HZ := Lib.hid (ndTo_len es nums)
  have H0 := Lib.hid (ndTo_zero es nums)
  have HK := Lib.hid fun (k : Nat) => @ndTo_skip es nums k
  have HS := Lib.hid fun (k : Nat) => @ndTo_set es nums k
  have HI := Lib.hid fun (W : World) (hW : Below w.heap.size w W) => hns.below hW hB'
  have hll := Lib.hid hln
  clear h ht hg hes hB hok hns hln
  generalize tD es nums = TD at *
  generalize ndTo es nums = ND at *
  generalize es.length = n at *
  go_enter Try.func77, Try.ntmps77
  go_wp2_with (go_at_call 70; refine (HN.out _).mono ?_; rintro e w1 ⟨CA, cc, rfl, hown, hb1⟩; have hO := Lib.hid hown; have hbh := Lib.hid hb1; clear hown hb1)
  have hl2 : (List.replicate n (-1 : Int)).length = n := List.length_replicate
  obtain ⟨q, rfl, hq1, hq2⟩ := hO.out.some2 (by rw [hl2]; omega)
  rw [hl2] at hO
  clear hl2
  have hz1 := hbh.out.size
  go_loopw [17] (fun u wr => ∃ k : Nat, k ≤ n ∧ u = .int .i64 k ∧ OW wr w.heap.size w1.heap.size (.slice (some ⟨q, 0, none⟩) n cc) (ND k) ∧ Below w.heap.size w wr ∧ w1.heap.size ≤ wr.heap.size) (fun u _ => n - (intOf u).toNat)
  case atStart => exact ⟨0, Nat.zero_le _, rfl, by rw [H0.out]; exact hO.out, hbh.out, Nat.le_refl _⟩
  case round =>
    obtain ⟨k, hk, rfl, hoc, hbel, hzr⟩ := hrel
    have hOC := Lib.hid hoc
    have hBL := Lib.hid hbel
    clear hoc hbel
    by_cases hlt : k < n
    · obtain ⟨pb, po, rfl, ⟨_, hpB⟩, hpp⟩ := HI.out wr hBL.out (by rw [hll.out]; omega)
      have y1 := hpp k (by rw [hll.out]; exact hlt)
      rw [show nums[k]'(by rw [hll.out]; exact hlt) = nums.getD k 0 from (getD_get (by rw [hll.out]; exact hlt)).symm] at y1
      have hki : (k : Int) < (n : Int) := by omega
      have hk0 : (0 : Int) ≤ (k : Int) := by omega
      have hkh := Lib.hid hlt
      have hlow := HL.out k hlt
      have hsk := Lib.hid (HK.out k)
      have hst := Lib.hid (HS.out k)
      have htl := Lib.hid (HT.out k hlt)
      have hxx := Lib.hid (HX.out k hlt)
      have hbd := Lib.hid (HB.out k hk)
      have hzk := HZ.out k
      clear hpp
      generalize hnk : ND (k + 1) = nk at *
      have hNK := Lib.hid hnk
      clear hnk
      generalize TD k = x at *
      generalize ND k = nd at *
      by_cases hneg : nums.getD k 0 = -1
      · have hs := Lib.hid (hsk.out hneg)
        rw [hneg] at y1
        clear hlow hsk hst htl hxx hbd hneg
        go_wp2
        go_roundw
        case rel => exact ⟨k + 1, hkh.out, by go_num, by rw [hNK.out, hs.out]; exact hOC.out, hBL.out, hzr⟩
        case measure => simp [intOf]; omega
      · have hs := Lib.hid (hst.out hneg)
        have hC := Lib.hid (htl.out hneg)
        obtain ⟨hx1, hx2, hx3, hx4⟩ := hxx.out hneg
        have hpos : 0 ≤ nums.getD k 0 ∧ nums.getD k 0 ≤ 12 := hlow.resolve_left hneg
        have hX1 := Lib.hid hx1
        clear hlow hsk hst htl hxx hneg
        generalize nums.getD k 0 = t at *
        obtain ⟨xn, ps, ins, xc⟩ := x
        dsimp only at hX1 hx1 hx2 hx3 hx4
        subst hx1
        go_wp2_with (fail)
        refine (hC.out _ hBL.out).mono ?_
        rintro e w5 ⟨PA, pc, QA, qc, rfl, hp, _, hb5⟩
        dsimp only [Option.map_some, Option.getD_some, Option.isSome_some] at hp ⊢
        have hpr := Lib.hid hp.rs
        have hO5 := Lib.hid (hOC.out.below hb5 hzr)
        have hB5 := Lib.hid (hBL.out.trans (hb5.mono hBL.out.size))
        have hz5 := Nat.le_trans hzr hb5.size
        clear hp hb5
        obtain ⟨d1, f1⟩ := hO5.out.at2 k (by omega)
        have hPut := Lib.hid fun (v : Int) => hO5.out.put2 k v
        have hBut := Lib.hid fun (v : Int) => hB5.out.setCell (p := ⟨q, k, none⟩) hq1 (.int .i64 v)
        match ps, hx2, hx3, hx4, hs, hpr with
        | [], hx2, hx3, hx4, hs, hpr =>
          have hv : Hid (min xn 1 = ndT nd ⟨xn, [], ins, xc⟩) := by
            unfold Hid ndT
            dsimp only
            by_cases h0 : xn = 0
            · rw [if_pos h0]; omega
            · rw [if_neg h0]; omega
          have hP := Lib.hid (hPut.out (min xn 1))
          have hQ := Lib.hid (hBut.out (min xn 1))
          have hle := Lib.hid fun (W : World) => leastN_any xn 1 W
          rw [hv.out] at hP hQ hle
          clear hx2 hx3 hx4 hpr hPut hBut hv
          generalize ndT nd ⟨xn, [], ins, xc⟩ = v at *
          generalize nd.getD k 0 = old at *
          go_wp2_with (go_at_call 133; (with_reducible refine (hle.out _).mono ?_); rintro e w' ⟨rfl, rfl⟩)
          go_roundw
          case rel => exact ⟨k + 1, hkh.out, by go_num, by rw [hNK.out, hs.out]; exact hP.out, hQ.out, by simpa using hz5⟩
          case measure => simp [intOf]; omega
        | [p], hx2, hx3, hx4, hs, hpr =>
          have ht0 : ¬ xn = 0 := fun h => by have := hx2 h; cases this
          have hv : Hid (max 1 (nd.getD p.toNat 0) = ndT nd ⟨xn, [p], ins, xc⟩) := by
            unfold Hid ndT; rw [if_neg ht0]
          have hpp := hx4 p (by simp)
          obtain ⟨pn, rfl⟩ := Int.eq_ofNat_of_zero_le hpp.1
          obtain ⟨tb, to', rfl, _, hcc⟩ := hpr.out (by simp)
          have e1 := hcc 0 (by simp)
          simp only [Nat.add_zero, List.getElem_cons_zero] at e1
          have hpk : pn < k := by omega
          obtain ⟨g1, _⟩ := hO5.out.at2 pn (by omega)
          have hpn0 : (0 : Int) ≤ (pn : Int) := by omega
          have hpnn : (pn : Int) < (n : Int) := by omega
          rw [Int.toNat_natCast] at hv
          have hP := Lib.hid (hPut.out (max 1 (nd.getD pn 0)))
          have hQ := Lib.hid (hBut.out (max 1 (nd.getD pn 0)))
          have hle := Lib.hid fun (W : World) => mostN_any 1 (nd.getD pn 0) W
          rw [hv.out] at hP hQ hle
          have hpn5 : Hid (pn < k) := hpk
          clear hx2 hx3 hx4 hpr hPut hBut hv hcc
          generalize ndT nd ⟨xn, [(pn : Int)], ins, xc⟩ = v at *
          generalize nd.getD k 0 = old at *
          generalize nd.getD pn 0 = np at *
          go_wp2_with (go_at_call 98; (with_reducible refine (hle.out _).mono ?_); rintro e w' ⟨rfl, rfl⟩)
          go_roundw
          case rel => exact ⟨k + 1, hkh.out, by go_num, by rw [hNK.out, hs.out]; exact hP.out, hQ.out, by simpa using hz5⟩
          case measure => simp [intOf]; omega
        | [p, p2], hx2, hx3, hx4, hs, hpr =>
          have ht0 : ¬ xn = 0 := fun h => by have := hx2 h; cases this
          have hv : Hid (seB (max (nd.getD p.toNat 0) (nd.getD p2.toNat 0)) (min (nd.getD p.toNat 0) (nd.getD p2.toNat 0)) = ndT nd ⟨xn, [p, p2], ins, xc⟩) := by
            unfold Hid ndT; rw [if_neg ht0]
          have hpp := hx4 p (by simp)
          have hpp2 := hx4 p2 (by simp)
          obtain ⟨pn, rfl⟩ := Int.eq_ofNat_of_zero_le hpp.1
          obtain ⟨pm, rfl⟩ := Int.eq_ofNat_of_zero_le hpp2.1
          obtain ⟨tb, to', rfl, ⟨htb1, _⟩, hcc⟩ := hpr.out (by simp)
          have e1 := hcc 0 (by simp)
          have e2 := hcc 1 (by simp)
          simp only [Nat.add_zero, List.getElem_cons_zero, List.getElem_cons_succ] at e1 e2
          obtain ⟨g1, _⟩ := hO5.out.at2 pn (by omega)
          obtain ⟨g2, _⟩ := hO5.out.at2 pm (by omega)
          have hpn0 : (0 : Int) ≤ (pn : Int) := by omega
          have hpnn : (pn : Int) < (n : Int) := by omega
          have hpm0 : (0 : Int) ≤ (pm : Int) := by omega
          have hpmn : (pm : Int) < (n : Int) := by omega
          rw [Int.toNat_natCast, Int.toNat_natCast] at hv
          have hb1 := (hbd.out pn (by omega)).2
          have hb2 := (hbd.out pm (by omega)).2
          have hk24 : (k : Int) ≤ 24 := by omega
          have hGs := Lib.hid fun (v : Int) (i : Nat) (hi : i < k) => (show (w5.setCell ⟨q, k, none⟩ (.int .i64 v)).cell? ⟨q, i, none⟩ = some (.int .i64 (nd.getD i 0)) from by
            have h1 := ((hPut.out v).at2 i (by rw [List.length_set]; omega)).1
            rw [getDI_set _ _ _ (by omega), if_neg (by omega)] at h1
            exact h1)
          have hG1 := Lib.hid fun (v : Int) => hGs.out v pn (by omega)
          have hG2 := Lib.hid fun (v : Int) => hGs.out v pm (by omega)
          have hE := Lib.hid fun (v : Int) (o : Nat) => (show (w5.setCell ⟨q, k, none⟩ (.int .i64 v)).cell? ⟨tb, o, none⟩ = w5.cell? ⟨tb, o, none⟩ from World.cell?_of_block (Below.heap_setCell w5 ⟨q, k, none⟩ (.int .i64 v) tb (by show tb ≠ q; omega)))
          clear hGs
          generalize nd.getD pn 0 = np at *
          generalize nd.getD pm 0 = nq at *
          have hm1 := Lib.hid fun (W : World) => mostN_any np nq W
          have hm2 := Lib.hid fun (W : World) => leastN_any np nq W
          have hm3 := Lib.hid fun (W : World) => seBoth_any (max np nq) (min np nq) W (by omega) (by omega)
          have hP := Lib.hid (hPut.out (seB (max np nq) (min np nq)))
          have hQ := Lib.hid (hBut.out (seB (max np nq) (min np nq)))
          rw [hv.out] at hP hQ hm3
          clear hx2 hx3 hx4 hpr hPut hBut hv hcc hb1 hb2
          generalize ndT nd ⟨xn, [(pn : Int), (pm : Int)], ins, xc⟩ = v at *
          generalize nd.getD k 0 = old at *
          generalize max np nq = m1 at *
          generalize min np nq = m2 at *
          go_wp2_with (fail)
          have hHeld : w5.drew.cell? ⟨tb, to', none⟩ = some (.int .i64 (pn : Int)) ∧ w5.drew.cell? ⟨tb, to' + 1, none⟩ = some (.int .i64 (pm : Int)) ∧ w5.drew.cell? ⟨q, pn, none⟩ = some (.int .i64 np) ∧ w5.drew.cell? ⟨q, pm, none⟩ = some (.int .i64 nq) := ⟨e1, e2, g1, g2⟩
          refine wp_region_held (S := fun w' => w'.cell? ⟨tb, to', none⟩ = some (.int .i64 (pn : Int)) ∧ w'.cell? ⟨tb, to' + 1, none⟩ = some (.int .i64 (pm : Int)) ∧ w'.cell? ⟨q, pn, none⟩ = some (.int .i64 np) ∧ w'.cell? ⟨q, pm, none⟩ = some (.int .i64 nq)) (by kernel_rfl) ?_
          change wpAnyH _ _ _ _ _ _ _ _ w5.drew
          refine wpAnyH_take (i := 0) (v := ?_) rfl (by kernel_rfl) (by kernel_rfl) (by kernel_rfl) (fun _ _ _ h => h) (Or.inl ⟨by rfl, ?_⟩) (by assumption) ?_
          rotate_left 1
          · (intro w hSw; (try dsimp only at hSw); go_simp; try with_reducible rfl)
          try simp only [Act.put, List.setIfInBounds_toArray, List.set_cons_zero, List.set_cons_succ]
          refine wpAnyH_take (i := 1) (v := ?_) rfl (by kernel_rfl) (by kernel_rfl) (by kernel_rfl) (fun _ _ _ h => h) (Or.inl ⟨by rfl, ?_⟩) (by assumption) ?_
          rotate_left 1
          · (intro w hSw; (try dsimp only at hSw); go_simp; try with_reducible rfl)
          try simp only [Act.put, List.setIfInBounds_toArray, List.set_cons_zero, List.set_cons_succ]
          refine wpAnyH_take (i := 2) (v := ?_) rfl (by kernel_rfl) (by kernel_rfl) (by kernel_rfl) (fun _ _ _ h => h) (Or.inl ⟨by rfl, ?_⟩) (by assumption) ?_
          rotate_left 1
          · (intro w hSw; (try dsimp only at hSw); go_simp; try with_reducible rfl)
          try simp only [Act.put, List.setIfInBounds_toArray, List.set_cons_zero, List.set_cons_succ]
          refine wpAnyH_take (i := 3) (v := ?_) rfl (by kernel_rfl) (by kernel_rfl) (by kernel_rfl) (fun _ _ _ h => h) (Or.inl ⟨by rfl, ?_⟩) (by assumption) ?_
          rotate_left 1
          · (intro w hSw; (try dsimp only at hSw); go_simp; try with_reducible rfl)
          try simp only [Act.put, List.setIfInBounds_toArray, List.set_cons_zero, List.set_cons_succ]
          refine wpAnyH_take (i := 4) (v := ?_) rfl (by kernel_rfl) (by kernel_rfl) (by kernel_rfl) (fun _ _ _ h => h) (Or.inl ⟨by rfl, ?_⟩) (by assumption) ?_
          rotate_left 1
          · (intro w hSw; (try dsimp only at hSw); go_simp; try with_reducible rfl)
          try simp only [Act.put, List.setIfInBounds_toArray, List.set_cons_zero, List.set_cons_succ]
          refine wpAnyH_take (i := 5) (v := ?_) rfl (by kernel_rfl) (by kernel_rfl) (by kernel_rfl) (fun _ _ _ h => h) (Or.inl ⟨by rfl, ?_⟩) (by assumption) ?_
          rotate_left 1
          · (intro w hSw; (try dsimp only at hSw); go_simp; try with_reducible rfl)
          try simp only [Act.put, List.setIfInBounds_toArray, List.set_cons_zero, List.set_cons_succ]
          refine wpAnyH_take (i := 6) (v := ?_) rfl (by kernel_rfl) (by kernel_rfl) (by kernel_rfl) (fun _ _ _ h => h) (Or.inl ⟨by rfl, ?_⟩) (by assumption) ?_
          rotate_left 1
          · (intro w hSw; (try dsimp only at hSw); go_simp; try with_reducible rfl)
          try simp only [Act.put, List.setIfInBounds_toArray, List.set_cons_zero, List.set_cons_succ]
          refine wpAnyH_take (i := 7) (v := ?_) rfl (by kernel_rfl) (by kernel_rfl) (by kernel_rfl) (fun _ _ _ h => h) (Or.inl ⟨by rfl, ?_⟩) (by assumption) ?_
          rotate_left 1
          · (intro w hSw; (try dsimp only at hSw); go_simp; try with_reducible rfl)
          try simp only [Act.put, List.setIfInBounds_toArray, List.set_cons_zero, List.set_cons_succ]
          refine wpAnyH_take (i := 8) (v := ?_) rfl (by kernel_rfl) (by kernel_rfl) (by kernel_rfl) (fun _ _ _ h => h) (Or.inl ⟨by rfl, ?_⟩) (by assumption) ?_
          rotate_left 1
          · (intro w hSw; (try dsimp only at hSw); go_simp; try with_reducible rfl)
          try simp only [Act.put, List.setIfInBounds_toArray, List.set_cons_zero, List.set_cons_succ]
          refine wpAnyH_take (i := 9) (v := ?_) rfl (by kernel_rfl) (by kernel_rfl) (by kernel_rfl) (fun _ _ _ h => h) (Or.inl ⟨by rfl, ?_⟩) (by assumption) ?_
          rotate_left 1
          · (intro w hSw; (try dsimp only at hSw); go_simp; try with_reducible rfl)
          try simp only [Act.put, List.setIfInBounds_toArray, List.set_cons_zero, List.set_cons_succ]
          refine wpAnyH_take (i := 10) (v := ?_) rfl (by kernel_rfl) (by kernel_rfl) (by kernel_rfl) (fun _ _ _ h => h) (Or.inl ⟨by rfl, ?_⟩) (by assumption) ?_
          rotate_left 1
          · (intro w hSw; (try dsimp only at hSw); go_simp; try with_reducible rfl)
          try simp only [Act.put, List.setIfInBounds_toArray, List.set_cons_zero, List.set_cons_succ]
          refine wpAnyH_take (i := 11) (v := ?_) rfl (by kernel_rfl) (by kernel_rfl) (by kernel_rfl) (fun _ _ _ h => h) (Or.inl ⟨by rfl, ?_⟩) (by assumption) ?_
          rotate_left 1
          · (intro w hSw; (try dsimp only at hSw); go_simp; try with_reducible rfl)
          try simp only [Act.put, List.setIfInBounds_toArray, List.set_cons_zero, List.set_cons_succ]
          refine wpAnyH_take (i := 12) (v := ?_) rfl (by kernel_rfl) (by kernel_rfl) (by kernel_rfl) (fun _ _ _ h => h) (Or.inl ⟨by rfl, ?_⟩) (by assumption) ?_
          rotate_left 1
          · (intro w hSw; (try dsimp only at hSw); go_simp; try with_reducible rfl)
          try simp only [Act.put, List.setIfInBounds_toArray, List.set_cons_zero, List.set_cons_succ]
          refine wpAnyH_take (i := 13) (v := ?_) rfl (by kernel_rfl) (by kernel_rfl) (by kernel_rfl) (fun _ _ _ h => h) (Or.inl ⟨by rfl, ?_⟩) (by assumption) ?_
          rotate_left 1
          · (intro w hSw; (try dsimp only at hSw); go_simp; try with_reducible rfl)
          try simp only [Act.put, List.setIfInBounds_toArray, List.set_cons_zero, List.set_cons_succ]
          refine wpAnyH_take (i := 15) (v := ?_) rfl (by kernel_rfl) (by kernel_rfl) (by kernel_rfl) (fun _ _ _ h => h) (Or.inl ⟨by rfl, ?_⟩) (by assumption) ?_
          rotate_left 1
          · (intro w hSw; (try dsimp only at hSw); go_simp; try with_reducible rfl)
          try simp only [Act.put, List.setIfInBounds_toArray, List.set_cons_zero, List.set_cons_succ]
          refine wpAnyH_take (i := 16) (v := ?_) rfl (by kernel_rfl) (by kernel_rfl) (by kernel_rfl) (fun _ _ _ h => h) (Or.inl ⟨by rfl, ?_⟩) (by assumption) ?_
          rotate_left 1
          · (intro w hSw; (try dsimp only at hSw); go_simp; try with_reducible rfl)
          try simp only [Act.put, List.setIfInBounds_toArray, List.set_cons_zero, List.set_cons_succ]
          refine wpAnyH_take (i := 17) (v := ?_) rfl (by kernel_rfl) (by kernel_rfl) (by kernel_rfl) (fun _ _ _ h => h) (Or.inl ⟨by rfl, ?_⟩) (by assumption) ?_
          rotate_left 1
          · (intro w hSw; (try dsimp only at hSw); go_simp; try with_reducible rfl)
          try simp only [Act.put, List.setIfInBounds_toArray, List.set_cons_zero, List.set_cons_succ]
          refine wpAnyH_take (i := 18) (v := ?_) rfl (by kernel_rfl) (by kernel_rfl) (by kernel_rfl) (fun _ _ _ h => h) (Or.inl ⟨by rfl, ?_⟩) (by assumption) ?_
          rotate_left 1
          · (intro w hSw; (try dsimp only at hSw); go_simp; try with_reducible rfl)
          try simp only [Act.put, List.setIfInBounds_toArray, List.set_cons_zero, List.set_cons_succ]
          refine wpAnyH_take (i := 19) (v := ?_) rfl (by kernel_rfl) (by kernel_rfl) (by kernel_rfl) (fun _ _ _ h => h) (Or.inl ⟨by rfl, ?_⟩) (by assumption) ?_
          rotate_left 1
          · (intro w hSw; (try dsimp only at hSw); go_simp; try with_reducible rfl)
          try simp only [Act.put, List.setIfInBounds_toArray, List.set_cons_zero, List.set_cons_succ]
          refine wpAnyH_take (i := 20) (v := ?_) rfl (by kernel_rfl) (by kernel_rfl) (by kernel_rfl) (fun _ _ _ h => h) (Or.inl ⟨by rfl, ?_⟩) (by assumption) ?_
          rotate_left 1
          · (intro w hSw; (try dsimp only at hSw); go_simp; try with_reducible rfl)
          try simp only [Act.put, List.setIfInBounds_toArray, List.set_cons_zero, List.set_cons_succ]
          refine wpAnyH_take (i := 21) (v := ?_) rfl (by kernel_rfl) (by kernel_rfl) (by kernel_rfl) (fun _ _ _ h => h) (Or.inl ⟨by rfl, ?_⟩) (by assumption) ?_
          rotate_left 1
          · (intro w hSw; (try dsimp only at hSw); go_simp; try with_reducible rfl)
          try simp only [Act.put, List.setIfInBounds_toArray, List.set_cons_zero, List.set_cons_succ]
          refine wpAnyH_take (i := 22) (v := ?_) rfl (by kernel_rfl) (by kernel_rfl) (by kernel_rfl) (fun _ _ _ h => h) (Or.inl ⟨by rfl, ?_⟩) (by assumption) ?_
          rotate_left 1
          · (intro w hSw; (try dsimp only at hSw); go_simp; try with_reducible rfl)
          try simp only [Act.put, List.setIfInBounds_toArray, List.set_cons_zero, List.set_cons_succ]
          refine wpAnyH_take (i := 23) (v := ?_) rfl (by kernel_rfl) (by kernel_rfl) (by kernel_rfl) (fun _ _ _ h => h) (Or.inl ⟨by rfl, ?_⟩) (by assumption) ?_
          rotate_left 1
          · (intro w hSw; (try dsimp only at hSw); go_simp; try with_reducible rfl)
          try simp only [Act.put, List.setIfInBounds_toArray, List.set_cons_zero, List.set_cons_succ]
          refine wpAnyH_take (i := 24) (v := ?_) rfl (by kernel_rfl) (by kernel_rfl) (by kernel_rfl) (fun _ _ _ h => h) (Or.inl ⟨by rfl, ?_⟩) (by assumption) ?_
          rotate_left 1
          · (intro w hSw; (try dsimp only at hSw); go_simp; try with_reducible rfl)
          try simp only [Act.put, List.setIfInBounds_toArray, List.set_cons_zero, List.set_cons_succ]
          refine wpAnyH_take (i := 25) (v := ?_) rfl (by kernel_rfl) (by kernel_rfl) (by kernel_rfl) (fun _ _ _ h => h) (Or.inl ⟨by rfl, ?_⟩) (by assumption) ?_
          rotate_left 1
          · (intro w hSw; (try dsimp only at hSw); go_simp; try with_reducible rfl)
          try simp only [Act.put, List.setIfInBounds_toArray, List.set_cons_zero, List.set_cons_succ]
          refine wpAnyH_take (i := 26) (v := ?_) rfl (by kernel_rfl) (by kernel_rfl) (by kernel_rfl) (fun _ _ _ h => h) (Or.inl ⟨by rfl, ?_⟩) (by assumption) ?_
          rotate_left 1
          · (intro w hSw; (try dsimp only at hSw); go_simp; try with_reducible rfl)
          try simp only [Act.put, List.setIfInBounds_toArray, List.set_cons_zero, List.set_cons_succ]
          refine wpAnyH_ready (rs := [14]) (by kernel_rfl) (by simp) ?_
          refine AllReadyH.cons rfl (fun K hK => ?_) AllReadyH.nil
          try simp only [List.getElem_toArray, List.getElem_cons_zero, List.getElem_cons_succ]
          go_simp
          go_at_call 98
          refine (hm1.out _).mono ?_
          rintro e w' ⟨rfl, rfl⟩
          refine hK.out _ _ hHeld (fun hHeld => ?_)
          clear hK K
          try simp only [Act.put, List.setIfInBounds_toArray, List.set_cons_zero, List.set_cons_succ]
          refine wpAnyH_ready (rs := [27]) (by kernel_rfl) (by simp) ?_
          refine AllReadyH.cons rfl (fun K hK => ?_) AllReadyH.nil
          try simp only [List.getElem_toArray, List.getElem_cons_zero, List.getElem_cons_succ]
          go_simp
          go_at_call 133
          refine (hm2.out _).mono ?_
          rintro e w' ⟨rfl, rfl⟩
          refine hK.out _ _ hHeld (fun hHeld => ?_)
          clear hK K
          try simp only [Act.put, List.setIfInBounds_toArray, List.set_cons_zero, List.set_cons_succ]
          refine wpAnyH_ready (rs := [28]) (by kernel_rfl) (by simp) ?_
          refine AllReadyH.cons rfl (fun K hK => ?_) AllReadyH.nil
          try simp only [List.getElem_toArray, List.getElem_cons_zero, List.getElem_cons_succ]
          go_simp
          go_at_call 134
          refine (hm3.out _).mono ?_
          rintro e w' ⟨rfl, rfl⟩
          refine hK.out _ _ hHeld (fun hHeld => ?_)
          clear hK K
          try simp only [Act.put, List.setIfInBounds_toArray, List.set_cons_zero, List.set_cons_succ]
          refine wpAnyH_take (i := 29) (v := ?_) rfl (by kernel_rfl) (by kernel_rfl) (by kernel_rfl) (fun _ _ _ h => h) (Or.inl ⟨by rfl, ?_⟩) (by assumption) ?_
          rotate_left 1
          · (intro w hSw; (try dsimp only at hSw); go_simp; try with_reducible rfl)
          try simp only [Act.put, List.setIfInBounds_toArray, List.set_cons_zero, List.set_cons_succ]
          refine wpAnyH_ready (rs := [30]) (by kernel_rfl) (by simp) ?_
          refine AllReadyH.cons rfl (fun K hK => ?_) AllReadyH.nil
          try simp only [List.getElem_toArray, List.getElem_cons_zero, List.getElem_cons_succ]
          go_simp
          refine hK.out _ _ ⟨(hE.out v to').trans e1, (hE.out v (to' + 1)).trans e2, hG1.out v, hG2.out v⟩ (fun hHeld => ?_)
          clear hK K
          try simp only [Act.put, List.setIfInBounds_toArray, List.set_cons_zero, List.set_cons_succ]
          refine wpAnyH_done (by kernel_rfl) ?_ _
          have hPd := Lib.hid (hP.out.below (Below.refl (w5.setCell ⟨q, k, none⟩ (.int .i64 v)).heap.size _).drew (by simpa using hz5))
          have hQd := Lib.hid hQ.out.drew
          go_wp2
          go_roundw
          case rel => exact ⟨k + 1, hkh.out, by go_num, by rw [hNK.out, hs.out]; exact hPd.out, hQd.out, by simpa using hz5⟩
          case measure => simp [intOf]; omega
    · obtain rfl : k = n := by omega
      go_wp2
      go_ret
      exact ⟨some ⟨q, 0, none⟩, cc, by rw [HZ.out]; rfl, by rw [HZ.out]; exact hOC.out.more hzr, hBL.out⟩
end Go.Proofs.Ytgcbfiamhpfkhaa

/- NeedsOf and NeedOf of the model. -/
namespace Go.Proofs.Ytgcbfiamhpfkhaa
open Go.RowKit
set_option linter.unusedVariables false
set_option maxRecDepth 100000

def needR (es : List Nd) (nums : List Int) : Int := if (tocR es nums).isSome = true then (ndTo es nums es.length).getD (es.length - 1) 0 else 0
set_option maxHeartbeats 4000000 in
theorem seGiven_any (L B L' B' : Nat) (A A' : Option Addr) (c c' : Nat) (es : List Nd) (nums : List Int) (w : World) (hl : es.length ≤ 1048576) (hn : nums.length ≤ 1048576) (hes : NS w L B A es) (hB : B ≤ w.heap.size) (hns : IS w L' B' A' nums) (hB' : B' ≤ w.heap.size) :
    Calls Try.prog 76 #[.slice A es.length c, .slice A' nums.length c'] w (BoolB w (tocR es nums).isSome) := by
  have H := Lib.hid (cvTree_any L B A c es w hl hes hB)
  have H2 := Lib.hid fun (ht : treeR es = true) (W : World) (hW : Below w.heap.size w W) => cvIs_any L B L' B' A A' c c' es nums W ht hn (hes.below hW hB) (Nat.le_trans hB hW.size) (hns.below hW hB') (Nat.le_trans hB' hW.size)
  clear hes hB hns hB'
  cases ht : treeR es
  · have hR : Hid (tocR es nums = none) := by unfold Hid tocR; rw [if_neg (by rw [ht]; simp)]
    rw [ht] at H
    clear ht H2
    go_enter Try.func76, Try.ntmps76
    go_wp2_with (go_at_call 53; refine H.out.mono ?_; rintro e w1 ⟨rfl, hb1⟩; have hbh := Lib.hid hb1; clear hb1)
    go_ret
    exact ⟨by rw [hR.out]; rfl, hbh.out⟩
  rw [ht] at H
  have H3 := Lib.hid (H2.out ht)
  clear ht H2
  generalize (tocR es nums).isSome = o at *
  go_enter Try.func76, Try.ntmps76
  go_wp2_with (first | (go_at_call 53; refine H.out.mono ?_; rintro e w1 ⟨rfl, hb1⟩; have hbh := Lib.hid hb1; clear hb1) | (go_at_call 132; refine (H3.out _ hbh.out).mono ?_; rintro e w2 ⟨rfl, hb2⟩; have hbi := Lib.hid (hbh.out.trans (hb2.mono hbh.out.size)); clear hb2))
  go_ret
  exact ⟨rfl, hbi.out⟩

set_option maxHeartbeats 4000000 in
theorem sNeedsOf_any (L B L' B' : Nat) (A A' : Option Addr) (c c' : Nat) (es : List Nd) (nums : List Int) (w : World) (hl : es.length ≤ 1048576) (hn : nums.length ≤ 1048576) (hes : NS w L B A es) (hB : B ≤ w.heap.size) (hns : IS w L' B' A' nums) (hB' : B' ≤ w.heap.size) :
    Calls Try.prog 30 #[.slice A es.length c, .slice A' nums.length c'] w (IntsRes w (needsR es nums) (tocR es nums).isSome) := by
  have H := Lib.hid (seGiven_any L B L' B' A A' c c' es nums w hl hn hes hB hns hB')
  have H2 := Lib.hid fun (out : List Ti) (h : tocR es nums = some out) (W : World) (hW : Below w.heap.size w W) => seNeeds_any L B L' B' A A' c c' es nums out W h (hes.below hW hB) (Nat.le_trans hB hW.size) (hns.below hW hB') (Nat.le_trans hB' hW.size)
  clear hes hB hns hB'
  cases ht : tocR es nums with
  | none =>
    have hR := Lib.hid (show needsR es nums = [] by unfold needsR; rw [if_neg (by rw [ht]; simp)])
    rw [ht] at H
    dsimp only [Option.isSome_none] at H ⊢
    clear ht H2
    go_enter Try.func30, Try.ntmps30
    go_wp2_with (go_at_call 76; refine H.out.mono ?_; rintro e w1 ⟨rfl, hb1⟩; have hbh := Lib.hid hb1; clear hb1)
    go_ret2
    rw [hR.out]
    exact ⟨none, 0, rfl, OW.nil _ _ _, hbh.out⟩
  | some out =>
    have hR := Lib.hid (show needsR es nums = ndTo es nums es.length by unfold needsR; rw [if_pos (by rw [ht]; simp)])
    have hln := (tocR_some ht).2.1
    rw [hln] at H ⊢
    rw [ht] at H
    have H3 := Lib.hid (H2.out out ht)
    have hZ := Lib.hid (ndTo_len es nums es.length)
    dsimp only [Option.isSome_some] at H ⊢
    clear ht H2 hn hln
    generalize ndTo es nums es.length = R at *
    generalize needsR es nums = R' at *
    go_enter Try.func30, Try.ntmps30
    go_wp2_with (first | (go_at_call 76; refine H.out.mono ?_; rintro e w1 ⟨rfl, hb1⟩; have hbh := Lib.hid hb1; clear hb1) | (go_at_call 77; refine (H3.out _ hbh.out).mono ?_; rintro e w2 ⟨PA, pc, rfl, ho, hb2⟩; have hO := Lib.hid (ho.lower hbh.out.size); have hbi := Lib.hid (hbh.out.trans (hb2.mono hbh.out.size)); clear hb2 ho))
    go_ret2
    rw [hR.out]
    exact ⟨PA, pc, rfl, hO.out, hbi.out⟩

set_option maxHeartbeats 4000000 in
theorem sNeedOf_any (L B L' B' : Nat) (A A' : Option Addr) (c c' : Nat) (es : List Nd) (nums : List Int) (w : World) (hl : es.length ≤ 1048576) (hn : nums.length ≤ 1048576) (hes : NS w L B A es) (hB : B ≤ w.heap.size) (hns : IS w L' B' A' nums) (hB' : B' ≤ w.heap.size) :
    Calls Try.prog 32 #[.slice A es.length c, .slice A' nums.length c'] w (IntRes w (needR es nums) (tocR es nums).isSome) := by
  have H := Lib.hid (seGiven_any L B L' B' A A' c c' es nums w hl hn hes hB hns hB')
  have H2 := Lib.hid fun (out : List Ti) (h : tocR es nums = some out) (W : World) (hW : Below w.heap.size w W) => seNeeds_any L B L' B' A A' c c' es nums out W h (hes.below hW hB) (Nat.le_trans hB hW.size) (hns.below hW hB') (Nat.le_trans hB' hW.size)
  clear hes hB hns hB'
  cases ht : tocR es nums with
  | none =>
    have hR := Lib.hid (show needR es nums = 0 by unfold needR; rw [if_neg (by rw [ht]; simp)])
    rw [ht] at H
    dsimp only [Option.isSome_none] at H ⊢
    clear ht H2
    go_enter Try.func32, Try.ntmps32
    go_wp2_with (go_at_call 76; refine H.out.mono ?_; rintro e w1 ⟨rfl, hb1⟩; have hbh := Lib.hid hb1; clear hb1)
    go_ret2
    exact ⟨by rw [hR.out]; rfl, hbh.out⟩
  | some out =>
    have hR := Lib.hid (show needR es nums = (ndTo es nums es.length).getD (es.length - 1) 0 by unfold needR; rw [if_pos (by rw [ht]; simp)])
    have hl1 : 1 ≤ es.length := by
      have h1 := (tocR_some ht).1
      have hg : good es = true := by unfold treeR at h1; simp only [Bool.and_eq_true] at h1; exact h1.1
      exact (good_len hg).1
    have hln := (tocR_some ht).2.1
    rw [hln] at H ⊢
    rw [ht] at H
    have H3 := Lib.hid (H2.out out ht)
    have hZ := Lib.hid (ndTo_len es nums es.length)
    dsimp only [Option.isSome_some] at H ⊢
    clear ht H2 hn hln
    generalize ndTo es nums es.length = R at *
    generalize needR es nums = R' at *
    obtain ⟨p, hp⟩ : ∃ p, es.length = p + 1 := ⟨es.length - 1, by omega⟩
    rw [hp] at H H3 hR hZ hl ⊢
    simp only [Nat.add_sub_cancel] at hR
    clear hp
    have hi0 : (0 : Int) ≤ (p : Int) := by omega
    have hi1 : (p : Int) < ((p + 1 : Nat) : Int) := by omega
    go_enter Try.func32, Try.ntmps32
    go_wp2_with (first | (go_at_call 76; refine H.out.mono ?_; rintro e w1 ⟨rfl, hb1⟩; have hbh := Lib.hid hb1; clear hb1) | (go_at_call 77; refine (H3.out _ hbh.out).mono ?_; rintro e w2 ⟨PA, pc, rfl, ho, hb2⟩; rw [hZ.out] at ho ⊢; obtain ⟨g, rfl, hg1, hg2⟩ := ho.some2 (by omega); have y1 := ho.at2 p (by rw [hZ.out]; omega); rw [← hR.out] at y1; have hbi := Lib.hid (hbh.out.trans (hb2.mono hbh.out.size)); clear hb2 ho))
    go_ret2
    exact ⟨rfl, hbi.out⟩
end Go.Proofs.Ytgcbfiamhpfkhaa

/- NeedsOf and NeedOf of the program. -/
namespace Go.Proofs.Ytgcbfiamhpfkhaa
open Go.RowKit
set_option linter.unusedVariables false
set_option maxRecDepth 100000

theorem selectionOf_no (L B L' B' : Nat) (A A' : Option Addr) (c c' : Nat) (es : List Nd) (nums : List Int) (w : World) (hl : es.length ≤ 1048576) (hn : nums.length ≤ 1048576) (h : tocR es nums = none) (hes : NS w L B A es) (hB : B ≤ w.heap.size) (hns : IS w L' B' A' nums) (hB' : B' ≤ w.heap.size) :
    Calls Try.prog 78 #[.slice A es.length c, .slice A' nums.length c'] w fun e w' => e = .returned (.tuple #[.agg #[.slice none 0 0, .slice none 0 0, .slice none 0 0], .bool false]) ∧ Below w.heap.size w w' := by
  have HC := Lib.hid fun (W : World) (hW : Below w.heap.size w W) => iIsCover_any L B L' B' A A' c c' es nums W hl hn (hes.below hW hB) (Nat.le_trans hB hW.size) (hns.below hW hB') (Nat.le_trans hB' hW.size)
  rw [h] at HC
  dsimp only [Option.isSome_none] at HC
  have hZ0 : CB 92 (w.alloc (.cells #[.slice none 0 0, .slice none 0 0, .slice none 0 0] 92)) w.heap.size [.slice none 0 0, .slice none 0 0, .slice none 0 0] := heap_alloc_new w _
  clear hes hB hns h hB'
  generalize treeR es = tr at *
  generalize es.length = n at *
  have b0 := Lib.hid ((Below.refl w.heap.size w).alloc (Nat.le_refl _) (.cells #[.slice none 0 0, .slice none 0 0, .slice none 0 0] 92))
  go_enter Try.func78, Try.ntmps78
  go_wp2_with (go_at_call 135; refine (HC.out _ b0.out).mono ?_; rintro e w1 ⟨rfl, hb1⟩; have hb1h := Lib.hid (b0.out.trans (hb1.mono b0.out.size)); have hZ1 := CB.below hZ0 hb1 (CB.lt hZ0); have s0 := CB.cell hZ1 0; have s1 := CB.cell hZ1 1; have s2 := CB.cell hZ1 2; have f0 := CB.frozen hZ1 0; have f1 := CB.frozen hZ1 1; have f2 := CB.frozen hZ1 2; simp only [List.getElem?_cons_zero, List.getElem?_cons_succ] at s0 s1 s2; have hZf := Lib.hid (((CB.set hZ1 0 (.slice none 0 0)).set 1 (.slice none 0 0)).set 2 (.slice none 0 0)); have hch := Lib.hid (show Chg w.heap.size (w.heap.size + 1) w1 (((w1.setCell ⟨w.heap.size, 0, none⟩ (.slice none 0 0)).setCell ⟨w.heap.size, 1, none⟩ (.slice none 0 0)).setCell ⟨w.heap.size, 2, none⟩ (.slice none 0 0)) from (((Chg.refl w.heap.size (w.heap.size + 1) w1).setCell (p := ⟨w.heap.size, 0, none⟩) ⟨Nat.le_refl _, Nat.lt_succ_self _⟩ _).setCell (p := ⟨w.heap.size, 1, none⟩) ⟨Nat.le_refl _, Nat.lt_succ_self _⟩ _).setCell (p := ⟨w.heap.size, 2, none⟩) ⟨Nat.le_refl _, Nat.lt_succ_self _⟩ _); clear hb1 hZ1)
  refine sel_ret2 (g := w.heap.size) rfl rfl rfl hZf.out ?_
  exact ⟨rfl, below_chg hb1h.out hch.out hb1h.out.size (Nat.le_refl _)⟩

set_option maxHeartbeats 4000000 in
theorem root_any (A TA NA : Option Addr) (n p c tl tc nl nc : Nat) (w : World) (hnp : n = p + 1) (h24 : p < 24) :
    Calls Try.prog 79 #[.agg #[.slice A n c, .slice TA tl tc, .slice NA nl nc]] w fun e w' => e = .returned (.int .i64 (p : Int)) ∧ Below w.heap.size w w' := by
  subst hnp
  have b0 := Lib.hid ((Below.refl w.heap.size w).alloc (Nat.le_refl _) (.cells #[.slice A (p + 1) c, .slice TA tl tc, .slice NA nl nc] 92))
  go_enter Try.func79, Try.ntmps79
  go_wp2
  go_ret
  exact ⟨by rfl, b0.out⟩

set_option maxHeartbeats 4000000 in
theorem iNeedsOf_any (L B L' B' : Nat) (A A' : Option Addr) (c c' : Nat) (es : List Nd) (nums : List Int) (w : World) (hl : es.length ≤ 1048576) (hn : nums.length ≤ 1048576) (hes : NS w L B A es) (hB : B ≤ w.heap.size) (hns : IS w L' B' A' nums) (hB' : B' ≤ w.heap.size) :
    Calls Try.prog 31 #[.slice A es.length c, .slice A' nums.length c'] w (IntsRes w (needsR es nums) (tocR es nums).isSome) := by
  cases ht : tocR es nums with
  | none =>
    have hR := Lib.hid (show needsR es nums = [] by unfold needsR; rw [if_neg (by rw [ht]; simp)])
    have H := Lib.hid (selectionOf_no L B L' B' A A' c c' es nums w hl hn ht hes hB hns hB')
    dsimp only [Option.isSome_none]
    clear ht hes hB hns hB'
    go_enter Try.func31, Try.ntmps31
    go_wp2_with (go_at_call 78; refine H.out.mono ?_; rintro e w1 ⟨rfl, hb1⟩; have ba := Lib.hid (hb1.trans (((Below.refl w1.heap.size w1).alloc (Nat.le_refl _) (.cells #[.slice none 0 0, .slice none 0 0, .slice none 0 0] 92)).mono hb1.size)); clear hb1)
    go_ret2
    rw [hR.out]
    exact ⟨none, 0, rfl, OW.nil _ _ _, ba.out⟩
  | some out =>
    have hR := Lib.hid (show needsR es nums = ndTo es nums es.length by unfold needsR; rw [if_pos (by rw [ht]; simp)])
    have hln := (tocR_some ht).2.1
    have H := Lib.hid (selectionOf_go L B L' B' A A' c c' es nums out w ht hes hB hns hB')
    have hZ := Lib.hid (ndTo_len es nums es.length)
    dsimp only [Option.isSome_some]
    rw [hln]
    clear ht hes hB hns hB' hn hln
    generalize ndTo es nums es.length = R at *
    generalize needsR es nums = R' at *
    generalize es.length = n at *
    go_enter Try.func31, Try.ntmps31
    go_wp2_with (go_at_call 78; refine H.out.mono ?_; rintro e w1 ⟨TA, NA, tc, nc, rfl, ho, hb1⟩; have hO := Lib.hid ((ho.below (Below.refl w1.heap.size w1) (Nat.le_refl _))); have bq := (Below.refl w1.heap.size w1).alloc (Nat.le_refl _) (.cells #[.slice A n c, .slice TA n tc, .slice NA n nc] 92); have hO2 := Lib.hid ((ho.below bq (Nat.le_refl _)).more bq.size); have ba := Lib.hid (hb1.trans (bq.mono hb1.size)); clear hb1 ho bq)
    go_ret2
    rw [hR.out]
    exact ⟨NA, nc, by rw [hZ.out]; rfl, by rw [hZ.out]; exact hO2.out, ba.out⟩

set_option maxHeartbeats 4000000 in
theorem iNeedOf_any (L B L' B' : Nat) (A A' : Option Addr) (c c' : Nat) (es : List Nd) (nums : List Int) (w : World) (hl : es.length ≤ 1048576) (hn : nums.length ≤ 1048576) (hes : NS w L B A es) (hB : B ≤ w.heap.size) (hns : IS w L' B' A' nums) (hB' : B' ≤ w.heap.size) :
    Calls Try.prog 33 #[.slice A es.length c, .slice A' nums.length c'] w (IntRes w (needR es nums) (tocR es nums).isSome) := by
  cases ht : tocR es nums with
  | none =>
    have hR := Lib.hid (show needR es nums = 0 by unfold needR; rw [if_neg (by rw [ht]; simp)])
    have H := Lib.hid (selectionOf_no L B L' B' A A' c c' es nums w hl hn ht hes hB hns hB')
    dsimp only [Option.isSome_none]
    clear ht hes hB hns hB'
    go_enter Try.func33, Try.ntmps33
    go_wp2_with (go_at_call 78; refine H.out.mono ?_; rintro e w1 ⟨rfl, hb1⟩; have ba := Lib.hid (hb1.trans (((Below.refl w1.heap.size w1).alloc (Nat.le_refl _) (.cells #[.slice none 0 0, .slice none 0 0, .slice none 0 0] 92)).mono hb1.size)); clear hb1)
    go_ret2
    exact ⟨by rw [hR.out]; rfl, ba.out⟩
  | some out =>
    have hR := Lib.hid (show needR es nums = (ndTo es nums es.length).getD (es.length - 1) 0 by unfold needR; rw [if_pos (by rw [ht]; simp)])
    have h1 := (tocR_some ht).1
    have hg : good es = true := by unfold treeR at h1; simp only [Bool.and_eq_true] at h1; exact h1.1
    obtain ⟨hl1, hl24, _⟩ := good_len hg
    have hln := (tocR_some ht).2.1
    have H := Lib.hid (selectionOf_go L B L' B' A A' c c' es nums out w ht hes hB hns hB')
    have hZ := Lib.hid (ndTo_len es nums es.length)
    dsimp only [Option.isSome_some]
    rw [hln]
    clear ht hes hB hns hB' hn hln h1 hg
    generalize ndTo es nums es.length = R at *
    generalize needR es nums = R' at *
    generalize es.length = n at *
    obtain ⟨p, hp⟩ : ∃ p, n - 1 = p := ⟨_, rfl⟩
    rw [hp] at hR
    have hnp := Lib.hid (show n = p + 1 by omega)
    have hp24 := Lib.hid (show p < 24 by omega)
    have hpl := Lib.hid (show p < n by omega)
    have hn0 := Lib.hid (show 0 < n by omega)
    have hi0 : (0 : Int) ≤ (p : Int) := by omega
    have hi1 : (p : Int) < (n : Int) := by omega
    clear hp hl1 hl24 hl
    go_enter Try.func33, Try.ntmps33
    go_wp2_with (fail)
    go_at_call 78
    refine H.out.mono ?_
    rintro e w1 ⟨TA, NA, tc, nc, rfl, ho, hb1⟩
    obtain ⟨g, rfl, hg1, hg2⟩ := ho.some2 hn0.out
    have y1 := ho.at2 p (by rw [hZ.out]; exact hpl.out)
    rw [← hR.out] at y1
    replace y1 := y1.1
    have bq := (Below.refl w1.heap.size w1).alloc (Nat.le_refl _) (.cells #[.slice A n c, .slice TA n tc, .slice (some ⟨g, 0, none⟩) n nc] 92)
    have hQ := Lib.hid (show CB 92 (w1.alloc (.cells #[.slice A n c, .slice TA n tc, .slice (some ⟨g, 0, none⟩) n nc] 92)) w1.heap.size [.slice A n c, .slice TA n tc, .slice (some ⟨g, 0, none⟩) n nc] from heap_alloc_new w1 _)
    have y2 := Lib.hid ((bq.cell (World.block_lt_of_cell? _ _ y1)).trans y1)
    have ba := Lib.hid (hb1.trans (bq.mono hb1.size))
    clear hb1 ho bq y1
    go_wp2_with (fail)
    generalize w1.alloc (.cells #[.slice A n c, .slice TA n tc, .slice (some ⟨g, 0, none⟩) n nc] 92) = W0 at *
    have c0 := CB.cell hQ.out 0
    have c1 := CB.cell hQ.out 1
    have c2 := CB.cell hQ.out 2
    simp only [List.getElem?_cons_zero, List.getElem?_cons_succ] at c0 c1 c2
    have c3 := y2.out
    have hW0 := Lib.hid (CB.lt hQ.out)
    have hbd := Lib.hid ba.out.drew
    clear hQ y2
    go_wp2_with (fail)
    go_region_held3 (fun w' => w'.cell? ⟨w1.heap.size, 0, none⟩ = some (.slice A n c) ∧ w'.cell? ⟨w1.heap.size, 1, none⟩ = some (.slice TA n tc) ∧ w'.cell? ⟨w1.heap.size, 2, none⟩ = some (.slice (some ⟨g, 0, none⟩) n nc) ∧ w'.cell? ⟨g, p, none⟩ = some (.int .i64 R'))
      (first | exact ⟨c0, c1, c2, c3⟩ | exact ⟨(hb3.cell (World.block_lt_of_cell? _ _ c0)).trans c0, (hb3.cell (World.block_lt_of_cell? _ _ c1)).trans c1, (hb3.cell (World.block_lt_of_cell? _ _ c2)).trans c2, (hb3.cell (World.block_lt_of_cell? _ _ c3)).trans c3⟩ | go_keep)
      ((go_at_call 79; refine (root_any _ _ _ n p _ _ _ _ _ _ hnp.out hp24.out).mono ?_; rintro e w3 ⟨rfl, hb3⟩))
    all_goals
      go_wp2
      go_ret2
      exact ⟨rfl, hbd.out.trans (hb3.mono hbd.out.size)⟩
end Go.Proofs.Ytgcbfiamhpfkhaa

/- NeedsOf and NeedOf as the laws take them. -/
namespace Go.Proofs.Ytgcbfiamhpfkhaa
open Go.RowKit
set_option linter.unusedVariables false

theorem needsR_len (es : List Nd) (nums : List Int) : (needsR es nums).length ≤ 1048576 := by
  unfold needsR
  split
  · rename_i h
    obtain ⟨out, ho⟩ := Option.isSome_iff_exists.mp h
    have h1 := (tocR_some ho).1
    have hg : good es = true := by unfold treeR at h1; simp only [Bool.and_eq_true] at h1; exact h1.1
    obtain ⟨_, hl24, _⟩ := good_len hg
    rw [ndTo_len]; omega
  · simp
theorem sNeedsOf_k (L B : Nat) (A : Option Addr) (c : Nat) (es : List Nd) (L' B' : Nat) (A' : Option Addr) (c' : Nat) (nums : List Int) (w : World) (hl : es.length ≤ 1048576) (hes : RS Nd.enc 4 w L B A es) (hB : B ≤ w.heap.size) (hn : nums.length ≤ 1048576) (hns : IS w L' B' A' nums) (hB' : B' ≤ w.heap.size) :
    Calls Try.prog 30 #[.slice A es.length c, .slice A' nums.length c'] w (ResNeedsOf (needsR es nums) (tocR es nums).isSome w) := sNeedsOf_any L B L' B' A A' c c' es nums w hl hn hes.ns hB hns hB'
theorem iNeedsOf_k (L B : Nat) (A : Option Addr) (c : Nat) (es : List Nd) (L' B' : Nat) (A' : Option Addr) (c' : Nat) (nums : List Int) (w : World) (hl : es.length ≤ 1048576) (hes : RS Nd.enc 4 w L B A es) (hB : B ≤ w.heap.size) (hn : nums.length ≤ 1048576) (hns : IS w L' B' A' nums) (hB' : B' ≤ w.heap.size) :
    Calls Try.prog 31 #[.slice A es.length c, .slice A' nums.length c'] w (ResNeedsOf (needsR es nums) (tocR es nums).isSome w) := iNeedsOf_any L B L' B' A A' c c' es nums w hl hn hes.ns hB hns hB'
theorem sNeedOf_k (L B : Nat) (A : Option Addr) (c : Nat) (es : List Nd) (L' B' : Nat) (A' : Option Addr) (c' : Nat) (nums : List Int) (w : World) (hl : es.length ≤ 1048576) (hes : RS Nd.enc 4 w L B A es) (hB : B ≤ w.heap.size) (hn : nums.length ≤ 1048576) (hns : IS w L' B' A' nums) (hB' : B' ≤ w.heap.size) :
    Calls Try.prog 32 #[.slice A es.length c, .slice A' nums.length c'] w (ResNeedOf (needR es nums) (tocR es nums).isSome w) := sNeedOf_any L B L' B' A A' c c' es nums w hl hn hes.ns hB hns hB'
theorem iNeedOf_k (L B : Nat) (A : Option Addr) (c : Nat) (es : List Nd) (L' B' : Nat) (A' : Option Addr) (c' : Nat) (nums : List Int) (w : World) (hl : es.length ≤ 1048576) (hes : RS Nd.enc 4 w L B A es) (hB : B ≤ w.heap.size) (hn : nums.length ≤ 1048576) (hns : IS w L' B' A' nums) (hB' : B' ≤ w.heap.size) :
    Calls Try.prog 33 #[.slice A es.length c, .slice A' nums.length c'] w (ResNeedOf (needR es nums) (tocR es nums).isSome w) := iNeedOf_any L B L' B' A A' c c' es nums w hl hn hes.ns hB hns hB'
end Go.Proofs.Ytgcbfiamhpfkhaa

/- Arguments of the types []laws.Instr, laws.Instr and []int opened. -/
namespace Go.Proofs.Ytgcbfiamhpfkhaa
open Go.ChangeShapes Go.WideShapes Go.ChangeAt Go.RowKit Go.Deep
open Go.ChangeMaps (open_string shut_string)
set_option linter.unusedVariables false

theorem cellsIn : Try.prog.cellsOf 99 = 5 := by kernel_rfl
theorem cellsStr : Try.prog.cellsOf 9 = 1 := by kernel_rfl
theorem cellsInt : Try.prog.cellsOf 3 = 1 := by kernel_rfl

set_option maxRecDepth 100000 in
theorem in_of_trod {H : Type} {enc : TypeId × Value → H} {w : World} {base : Nat} {spare : Nat → Bool} {held : Bool} {n : Nat} {cs : List Value} {x : DataW H × List MemPlace}
    (h : DataW.trod enc Try.prog w base spare held n 99 cs = some x) : ∃ nd : In, cs = nd.enc ∧ nd.op.size ≤ maxLen := by
  obtain ⟨xs, m, _, _, hlen, hxl, hf⟩ := DataW.trod_struct Try.underlying99 h
  rw [cellsIn] at hlen
  match cs, hlen with
  | [c0, c1, c2, c3, c4], _ =>
    match xs, hxl with
    | [y0, y1, y2, y3, y4], _ =>
      have h0 := hf 0 _ rfl
      change DataW.trod enc Try.prog w base spare held m 9 (([c0, c1, c2, c3, c4].drop 0).take (Try.prog.cellsOf 9)) = _ at h0
      rw [cellsStr] at h0
      have h1 := hf 1 _ rfl
      change DataW.trod enc Try.prog w base spare held m 3 (([c0, c1, c2, c3, c4].drop 1).take (Try.prog.cellsOf 3)) = _ at h1
      rw [cellsInt] at h1
      have h2 := hf 2 _ rfl
      change DataW.trod enc Try.prog w base spare held m 3 (([c0, c1, c2, c3, c4].drop 2).take (Try.prog.cellsOf 3)) = _ at h2
      rw [cellsInt] at h2
      have h3 := hf 3 _ rfl
      change DataW.trod enc Try.prog w base spare held m 3 (([c0, c1, c2, c3, c4].drop 3).take (Try.prog.cellsOf 3)) = _ at h3
      rw [cellsInt] at h3
      have h4 := hf 4 _ rfl
      change DataW.trod enc Try.prog w base spare held m 3 (([c0, c1, c2, c3, c4].drop 4).take (Try.prog.cellsOf 3)) = _ at h4
      rw [cellsInt] at h4
      obtain ⟨s, e0, _, hs⟩ := DataW.trod_string Try.underlying9 h0
      obtain ⟨d, e1, _, _⟩ := DataW.trod_int Try.underlying3 h1
      obtain ⟨a, e2, _, _⟩ := DataW.trod_int Try.underlying3 h2
      obtain ⟨b, e3, _, _⟩ := DataW.trod_int Try.underlying3 h3
      obtain ⟨m, e4, _, _⟩ := DataW.trod_int Try.underlying3 h4
      have e0 : c0 = .string s := by simpa using e0
      have e1 : c1 = .int .i64 d := by simpa using e1
      have e2 : c2 = .int .i64 a := by simpa using e2
      have e3 : c3 = .int .i64 b := by simpa using e3
      have e4 : c4 = .int .i64 m := by simpa using e4
      exact ⟨⟨s, d, a, b, m⟩, by rw [e0, e1, e2, e3, e4]; rfl, hs⟩

theorem cell_lt_heap {w : World} {a : Addr} {v : Value} (h : w.cell? a = some v) : a.block < w.heap.size := by
  rcases Nat.lt_or_ge a.block w.heap.size with hlt | hge
  · exact hlt
  · unfold World.cell? at h; rw [Array.getElem?_eq_none hge] at h; simp at h

set_option maxRecDepth 100000 in
theorem x_of_trod {H : Type} {enc : TypeId × Value → H} {w : World} {r : Reach} {b0 : Nat} {spare : Nat → Bool} {held : Bool} {v : Value} {d : DataW H} {p : List MemPlace}
    (hv : Value.okWide Try.prog w r b0 99 v) (h : DataW.Trod enc Try.prog w 0 spare held 99 v d p) :
    ∃ x : In, v = .agg #[.string x.op, .int .i64 x.d, .int .i64 x.a, .int .i64 x.b, .int .i64 x.m] ∧ x.op.size ≤ 9223372036854775807 := by
  obtain ⟨cs, rfl, hsz⟩ := okWide_struct Try.underlying99 hv
  obtain ⟨fuel, hf⟩ := h
  obtain ⟨x, hx, hs⟩ := in_of_trod hf
  refine ⟨x, ?_, by unfold maxLen at hs; omega⟩
  obtain ⟨l⟩ := cs
  have hx' : l = x.enc := by simpa [Value.cells] using hx
  subst hx'; rfl

set_option maxRecDepth 100000 in
theorem ins_of_trod {H : Type} {enc : TypeId × Value → H} {w : World} {spare : Nat → Bool} {held : Bool} {A : Option Addr} {len cap : Nat} {d : DataW H} {p : List MemPlace}
    (h : DataW.Trod enc Try.prog w 0 spare held 44 (.slice A len cap) d p) :
    ∃ es : List In, es.length = len ∧ RS In.enc 5 w 0 w.heap.size A es ∧ (∀ n ∈ es, n.op.size ≤ 9223372036854775807) ∧ len ≤ 9223372036854775807 := by
  obtain ⟨fuel, hf⟩ := h
  rcases open_slice Try.underlying44 hf with ⟨hcs, _⟩ | ⟨a, l, c, m, n, D, Pl, hcs, _, hl, hm, hmm, _, hi⟩
  · simp [Value.cells] at hcs
    obtain ⟨rfl, rfl, rfl⟩ := hcs
    exact ⟨[], rfl, fun h => absurd h (by simp), (fun n hn => by cases hn), by omega⟩
  · simp [Value.cells] at hcs
    obtain ⟨rfl, rfl, rfl⟩ := hcs
    have hlm : len ≤ m := by rw [hmm]; split <;> omega
    have hex : ∀ i, i < len → ∃ nd : In, (∀ j v, nd.enc[j]? = some v → w.cell? (a.add (i * 5 + j)) = some v) ∧ nd.op.size ≤ maxLen := by
      intro i hil
      obtain ⟨cs', hc, ht⟩ := hi i (by omega)
      rw [cellsIn] at hc
      obtain ⟨nd, rfl, hs⟩ := in_of_trod ht
      obtain ⟨_, _, hat⟩ := World.cells?_some hc
      refine ⟨nd, fun j v hv => ?_, hs⟩
      have hj : j < 5 := kflat_lt In.hk hv
      have := hat j hj
      rw [add_add, hv] at this; exact this
    obtain ⟨f, hf2⟩ := Classical.axiomOfChoice (fun i : {i // i < len} => hex i.1 i.2)
    have hget : ∀ i (h : i < (List.ofFn fun i : Fin len => f ⟨i.1, i.2⟩).length), (List.ofFn fun i : Fin len => f ⟨i.1, i.2⟩)[i] = f ⟨i, by simpa using h⟩ := fun i h => by simp
    refine ⟨List.ofFn fun i : Fin len => f ⟨i.1, i.2⟩, by simp, ?_, ?_, by unfold maxLen at hm; omega⟩
    · intro hpos
      have hpos' : 0 < len := by simpa using hpos
      have h0 := (hf2 ⟨0, hpos'⟩).1 0 _ rfl
      obtain ⟨b, o, spot⟩ := a
      have hspot : spot = none := by have := World.cell?_spot h0; simpa [Addr.add] using this
      subst hspot
      have hadd : ∀ k, (⟨b, o, none⟩ : Addr).add k = ⟨b, o + k, none⟩ := fun k => by simp [Addr.add]
      refine ⟨b, o, rfl, ⟨Nat.zero_le _, ?_⟩, fun i hi j v hv => ?_⟩
      · rw [hadd] at h0
        exact cell_lt_heap h0
      · have hi' : i < len := by simpa using hi
        rw [hget i hi] at hv
        have := (hf2 ⟨i, hi'⟩).1 j v hv
        simp only [hadd, ← Nat.add_assoc] at this
        exact this
    · intro n hn
      obtain ⟨i, rfl⟩ := List.mem_ofFn.1 hn
      have := (hf2 ⟨i.1, i.2⟩).2
      unfold maxLen at this; omega

set_option maxRecDepth 100000 in
theorem ints_of_trod {H : Type} {enc : TypeId × Value → H} {w : World} {spare : Nat → Bool} {held : Bool} {A : Option Addr} {len cap : Nat} {d : DataW H} {p : List MemPlace}
    (h : DataW.Trod enc Try.prog w 0 spare held 23 (.slice A len cap) d p) :
    ∃ xs : List Int, xs.length = len ∧ IS w 0 w.heap.size A xs ∧ len ≤ 9223372036854775807 := by
  obtain ⟨fuel, hf⟩ := h
  rcases open_slice Try.underlying23 hf with ⟨hcs, _⟩ | ⟨a, l, c, m, n, D, Pl, hcs, _, hl, hm, hmm, _, hi⟩
  · simp [Value.cells] at hcs
    obtain ⟨rfl, rfl, rfl⟩ := hcs
    exact ⟨[], rfl, fun h => absurd h (by simp), by omega⟩
  · simp [Value.cells] at hcs
    obtain ⟨rfl, rfl, rfl⟩ := hcs
    have hlm : len ≤ m := by rw [hmm]; split <;> omega
    have hex : ∀ i, i < len → ∃ x : Int, w.cell? (a.add i) = some (.int .i64 x) := by
      intro i hil
      obtain ⟨cs', hc, ht⟩ := hi i (by omega)
      rw [cellsInt, Nat.mul_one] at hc
      obtain ⟨x, hx, _, _⟩ := DataW.trod_int Try.underlying3 ht
      obtain ⟨_, _, hat⟩ := World.cells?_some hc
      have := hat 0 (by omega)
      rw [add_add, hx] at this
      exact ⟨x, by simpa using this⟩
    obtain ⟨f, hf2⟩ := Classical.axiomOfChoice (fun i : {i // i < len} => hex i.1 i.2)
    have hget : ∀ i (h : i < (List.ofFn fun i : Fin len => f ⟨i.1, i.2⟩).length), (List.ofFn fun i : Fin len => f ⟨i.1, i.2⟩)[i] = f ⟨i, by simpa using h⟩ := fun i h => by simp
    refine ⟨List.ofFn fun i : Fin len => f ⟨i.1, i.2⟩, by simp, ?_, by unfold maxLen at hm; omega⟩
    intro hpos
    have hpos' : 0 < len := by simpa using hpos
    have h0 := hf2 ⟨0, hpos'⟩
    obtain ⟨b, o, spot⟩ := a
    have hspot : spot = none := by have := World.cell?_spot h0; simpa [Addr.add] using this
    subst hspot
    have hadd : ∀ k, (⟨b, o, none⟩ : Addr).add k = ⟨b, o + k, none⟩ := fun k => by simp [Addr.add]
    refine ⟨b, o, rfl, ⟨Nat.zero_le _, ?_⟩, fun i hi => ?_⟩
    · rw [hadd] at h0
      exact cell_lt_heap h0
    · have hi' : i < len := by simpa using hi
      rw [hget i hi]
      have := hf2 ⟨i, hi'⟩
      simp only [hadd] at this
      exact this
end Go.Proofs.Ytgcbfiamhpfkhaa

/- An argument of type []laws.Node opened as a list of nodes. -/
namespace Go.Proofs.Ytgcbfiamhpfkhaa
open Go.ChangeShapes Go.WideShapes Go.ChangeAt Go.RowKit Go.Deep
open Go.ChangeMaps (open_string shut_string)
set_option linter.unusedVariables false
set_option maxRecDepth 100000

theorem cellsNode : Try.prog.cellsOf 62 = 4 := by kernel_rfl

theorem node_of_trod {H : Type} {enc : TypeId × Value → H} {w : World} {base : Nat} {spare : Nat → Bool} {held : Bool} {n : Nat} {cs : List Value} {x : DataW H × List MemPlace}
    (h : DataW.trod enc Try.prog w base spare held n 62 cs = some x) : ∃ nd : Nd, cs = nd.cells ∧ nd.op.size ≤ maxLen := by
  obtain ⟨xs, m, _, _, hlen, hxl, hf⟩ := DataW.trod_struct Try.underlying62 h
  rw [cellsNode] at hlen
  match cs, hlen with
  | [c0, c1, c2, c3], _ =>
    match xs, hxl with
    | [y0, y1, y2, y3], _ =>
      have h0 := hf 0 _ rfl
      change DataW.trod enc Try.prog w base spare held m 9 (([c0, c1, c2, c3].drop 0).take (Try.prog.cellsOf 9)) = _ at h0
      rw [cellsStr] at h0
      have h1 := hf 1 _ rfl
      change DataW.trod enc Try.prog w base spare held m 3 (([c0, c1, c2, c3].drop 1).take (Try.prog.cellsOf 3)) = _ at h1
      rw [cellsInt] at h1
      have h2 := hf 2 _ rfl
      change DataW.trod enc Try.prog w base spare held m 3 (([c0, c1, c2, c3].drop 2).take (Try.prog.cellsOf 3)) = _ at h2
      rw [cellsInt] at h2
      have h3 := hf 3 _ rfl
      change DataW.trod enc Try.prog w base spare held m 3 (([c0, c1, c2, c3].drop 3).take (Try.prog.cellsOf 3)) = _ at h3
      rw [cellsInt] at h3
      obtain ⟨s, e0, _, hs⟩ := DataW.trod_string Try.underlying9 h0
      obtain ⟨a, e1, _, _⟩ := DataW.trod_int Try.underlying3 h1
      obtain ⟨b, e2, _, _⟩ := DataW.trod_int Try.underlying3 h2
      obtain ⟨v, e3, _, _⟩ := DataW.trod_int Try.underlying3 h3
      have e0 : c0 = .string s := by simpa using e0
      have e1 : c1 = .int .i64 a := by simpa using e1
      have e2 : c2 = .int .i64 b := by simpa using e2
      have e3 : c3 = .int .i64 v := by simpa using e3
      exact ⟨⟨s, a, b, v⟩, by rw [e0, e1, e2, e3]; rfl, hs⟩

theorem nodes_of_trod_ns {H : Type} {enc : TypeId × Value → H} {w : World} {spare : Nat → Bool} {held : Bool} {A : Option Addr} {len cap : Nat} {d : DataW H} {p : List MemPlace}
    (h : DataW.Trod enc Try.prog w 0 spare held 22 (.slice A len cap) d p) :
    ∃ es : List Nd, es.length = len ∧ NS w 0 w.heap.size A es ∧ (∀ n ∈ es, n.op.size ≤ 9223372036854775807) ∧ len ≤ 9223372036854775807 := by
  obtain ⟨fuel, hf⟩ := h
  rcases open_slice Try.underlying22 hf with ⟨hcs, _⟩ | ⟨a, l, c, m, n, D, Pl, hcs, _, hl, hm, hmm, _, hi⟩
  · simp [Value.cells] at hcs
    obtain ⟨rfl, rfl, rfl⟩ := hcs
    exact ⟨[], rfl, fun h => absurd h (by simp), (fun n hn => by cases hn), by omega⟩
  · simp [Value.cells] at hcs
    obtain ⟨rfl, rfl, rfl⟩ := hcs
    have hlm : len ≤ m := by rw [hmm]; split <;> omega
    have hex : ∀ i, i < len → ∃ nd : Nd, (w.cell? (a.add (i * 4)) = some (.string nd.op) ∧ w.cell? (a.add (i * 4 + 1)) = some (.int .i64 nd.a) ∧ w.cell? (a.add (i * 4 + 2)) = some (.int .i64 nd.b) ∧ w.cell? (a.add (i * 4 + 3)) = some (.int .i64 nd.v)) ∧ nd.op.size ≤ maxLen := by
      intro i hil
      obtain ⟨cs', hc, ht⟩ := hi i (by omega)
      rw [cellsNode] at hc
      obtain ⟨nd, rfl, hs⟩ := node_of_trod ht
      obtain ⟨_, _, hat⟩ := World.cells?_some hc
      refine ⟨nd, ⟨?_, ?_, ?_, ?_⟩, hs⟩
      · have := hat 0 (by omega); rw [add_add] at this; exact this
      · have := hat 1 (by omega); rw [add_add] at this; exact this
      · have := hat 2 (by omega); rw [add_add] at this; exact this
      · have := hat 3 (by omega); rw [add_add] at this; exact this
    obtain ⟨f, hf2⟩ := Classical.axiomOfChoice (fun i : {i // i < len} => hex i.1 i.2)
    have hget : ∀ i (h : i < (List.ofFn fun i : Fin len => f ⟨i.1, i.2⟩).length), (List.ofFn fun i : Fin len => f ⟨i.1, i.2⟩)[i] = f ⟨i, by simpa using h⟩ := fun i h => by simp
    refine ⟨List.ofFn fun i : Fin len => f ⟨i.1, i.2⟩, by simp, ?_, ?_, by unfold maxLen at hm; omega⟩
    · intro hpos
      have hpos' : 0 < len := by simpa using hpos
      have h0 := (hf2 ⟨0, hpos'⟩).1.1
      obtain ⟨b, o, spot⟩ := a
      have hspot : spot = none := by have := World.cell?_spot h0; simpa [Addr.add] using this
      subst hspot
      have hadd : ∀ k, (⟨b, o, none⟩ : Addr).add k = ⟨b, o + k, none⟩ := fun k => by simp [Addr.add]
      refine ⟨b, o, rfl, ⟨Nat.zero_le _, ?_⟩, fun i hi => ?_⟩
      · rw [hadd] at h0
        exact cell_lt_heap h0
      · have hi' : i < len := by simpa using hi
        rw [hget i hi]
        have := (hf2 ⟨i, hi'⟩).1
        simp only [hadd, ← Nat.add_assoc] at this
        exact this
    · intro n hn
      obtain ⟨i, rfl⟩ := List.mem_ofFn.1 hn
      have := (hf2 ⟨i.1, i.2⟩).2
      unfold maxLen at this; omega
theorem nodes_of_trod {H : Type} {enc : TypeId × Value → H} {w : World} {spare : Nat → Bool} {held : Bool} {A : Option Addr} {len cap : Nat} {d : DataW H} {p : List MemPlace}
    (h : DataW.Trod enc Try.prog w 0 spare held 22 (.slice A len cap) d p) :
    ∃ es : List Nd, es.length = len ∧ RS Nd.enc 4 w 0 w.heap.size A es ∧ (∀ n ∈ es, n.op.size ≤ 9223372036854775807) ∧ len ≤ 9223372036854775807 := by
  obtain ⟨es, h1, h2, h3⟩ := nodes_of_trod_ns h
  exact ⟨es, h1, h2.rs, h3⟩
end Go.Proofs.Ytgcbfiamhpfkhaa
