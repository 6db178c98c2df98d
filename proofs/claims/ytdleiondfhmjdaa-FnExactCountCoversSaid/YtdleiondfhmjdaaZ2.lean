/- Texts of this proof, one behind the other: EV, EW, EX, WM, FF, TM. -/
import Derived.Test.YtdleiondfhmjdaaZ3
import Derived.Test.YtdleiondfhmjdaaLawEA
import Derived.WalkKit
import Derived.WalkSpells
import Derived.WalkLawsBesides
import Derived.Lib.Hide
import Derived.Test.YtdleiondfhmjdaaF
import Derived.Test.YtdleiondfhmjdaaJ
import Derived.Test.YtdleiondfhmjdaaZ7
import Derived.Test.YtdleiondfhmjdaaM
/- TileParts, TileInner, TileCost: the model; the contracts as the laws take them. -/
namespace Go.Proofs.Ytdleiondfhmjdaa
open Go.RowKit
set_option linter.unusedVariables false

theorem foTi_len (es : List Nd) (f : Fo) (nd : Nd) : (foTi es f nd).ps.length ≤ 2 ∧ (foTi es f nd).ins.length ≤ 2 := by
  unfold foTi; split <;> simp
theorem mt_len {es : List Nd} {nd : Nd} {n : Nat} {x : Ti} (h : mt es nd n = some x) : x.ps.length ≤ 2 ∧ x.ins.length ≤ 2 := by
  match n with
  | 0 | 1 | 2 | 3 =>
    simp only [mt] at h
    split at h
    · injection h with h
      subst h
      simp
    · cases h
  | m + 4 =>
    simp only [mt] at h
    rw [Option.bind_eq_some_iff] at h
    obtain ⟨f, _, h⟩ := h
    unfold foO at h
    split at h
    · injection h with h; subst h; exact foTi_len es f nd
    · cases h

set_option maxHeartbeats 2000000 in
theorem sTileParts_any (L B : Nat) (A : Option Addr) (c : Nat) (es : List Nd) (i t : Int) (w : World) (hl : es.length ≤ 1048576) (hes : NS w L B A es) (hB : B ≤ w.heap.size) :
    Calls Try.prog 29 #[.slice A es.length c, .int .i64 i, .int .i64 t] w (IntsRes w (partsR es i t) (tokR es i t)) := by
  have H := Lib.hid (cvAt_any L B A c es i t w hl hes hB)
  have H2 := Lib.hid fun (k n : Nat) (hk : k < es.length) (hn : n < 13) (hok : okFrom es 0 = true) (W : World) (hW : Below w.heap.size w W) => cvTile_n L B A c es k hk n hn W (hes.below hW hB) (Nat.le_trans hB hW.size) hok
  clear hes hB
  cases ht : tokR es i t
  · have hR := Lib.hid (show partsR es i t = [] by
      unfold tokR at ht
      unfold partsR
      rw [Option.isSome_eq_false_iff, Option.isNone_iff_eq_none] at ht
      rw [ht]; rfl)
    rw [ht] at H
    clear ht H2
    go_enter Try.func29, Try.ntmps29
    go_wp2_with (go_at_call 72; refine H.out.mono ?_; rintro e w1 ⟨rfl, hb1⟩; have hbh := Lib.hid hb1; clear hb1)
    go_ret2
    exact ⟨none, 0, by rw [hR.out]; rfl, by rw [hR.out]; exact OW.nil _ _ _, hbh.out⟩
  · obtain ⟨k, n, hk, rfl, rfl, hn, hok, hl24, hT⟩ := tok_parts ht
    have HT := Lib.hid fun W hW => H2.out k n hk hn hok W hW
    have hR := Lib.hid (show partsR es (k : Int) (n : Int) = ((mt es es[k] n).map Ti.ps).getD [] by
      unfold partsR
      unfold tokR at ht
      rw [hT] at ht ⊢
      cases hm : mt es es[k] n with
      | none => rw [hm] at ht; cases ht
      | some x => rfl)
    rw [ht] at H
    clear ht H2 hT hok hl24
    generalize mt es es[k] n = o at *
    clear hk
    go_enter Try.func29, Try.ntmps29
    go_wp2_with (first | (go_at_call 72; refine H.out.mono ?_; rintro e w1 ⟨rfl, hb1⟩; have hbh := Lib.hid hb1; clear hb1) | (go_at_call 73; (with_reducible refine (HT.out _ hbh.out).mono ?_); rintro e w2 ⟨PA, pc, QA, qc, rfl, hp, hq, hb2⟩; have hbi := Lib.hid (hbh.out.trans (hb2.mono hbh.out.size)); have hpp := Lib.hid (hp.lower hbh.out.size); clear hb2 hp hq))
    go_ret2
    exact ⟨PA, pc, by rw [hR.out]; rfl, by rw [hR.out]; exact hpp.out, hbi.out⟩
theorem sTileParts_k (L B : Nat) (A : Option Addr) (c : Nat) (es : List Nd) (i t : Int) (w : World) (hl : es.length ≤ 1048576) (hes : RS Nd.enc 4 w L B A es) (hB : B ≤ w.heap.size) :
    Calls Try.prog 29 #[.slice A es.length c, .int .i64 i, .int .i64 t] w (ResTileParts (partsR es i t) (tokR es i t) w) := sTileParts_any L B A c es i t w hl hes.ns hB
theorem iTileParts_k (L B : Nat) (A : Option Addr) (c : Nat) (es : List Nd) (i t : Int) (w : World) (hl : es.length ≤ 1048576) (hes : RS Nd.enc 4 w L B A es) (hB : B ≤ w.heap.size) :
    Calls Try.prog 31 #[.slice A es.length c, .int .i64 i, .int .i64 t] w (ResTileParts (partsR es i t) (tokR es i t) w) := iTileParts_any L B A c es i t w hl hes.ns hB
theorem partsR_len {es : List Nd} {i t : Int} : (partsR es i t).length ≤ 1048576 := by
  cases ht : tokR es i t
  · unfold tokR at ht
    unfold partsR
    rw [Option.isSome_eq_false_iff, Option.isNone_iff_eq_none] at ht
    rw [ht]; simp [noTi]
  · obtain ⟨k, n, hk, rfl, rfl, hn, hok, hl24, hT⟩ := tok_parts ht
    unfold partsR
    rw [hT]
    cases hm : mt es es[k] n with
    | none => simp [noTi]
    | some x => have := mt_len hm; simp only [Option.getD_some]; omega

set_option maxHeartbeats 2000000 in
theorem sTileInner_any (L B : Nat) (A : Option Addr) (c : Nat) (es : List Nd) (i t : Int) (w : World) (hl : es.length ≤ 1048576) (hes : NS w L B A es) (hB : B ≤ w.heap.size) :
    Calls Try.prog 35 #[.slice A es.length c, .int .i64 i, .int .i64 t] w (IntsRes w (innerR es i t) (tokR es i t)) := by
  have H := Lib.hid (cvAt_any L B A c es i t w hl hes hB)
  have H2 := Lib.hid fun (k n : Nat) (hk : k < es.length) (hn : n < 13) (hok : okFrom es 0 = true) (W : World) (hW : Below w.heap.size w W) => cvTile_n L B A c es k hk n hn W (hes.below hW hB) (Nat.le_trans hB hW.size) hok
  clear hes hB
  cases ht : tokR es i t
  · have hR := Lib.hid (show innerR es i t = [] by
      unfold tokR at ht
      unfold innerR
      rw [Option.isSome_eq_false_iff, Option.isNone_iff_eq_none] at ht
      rw [ht]; rfl)
    rw [ht] at H
    clear ht H2
    go_enter Try.func35, Try.ntmps35
    go_wp2_with (go_at_call 72; refine H.out.mono ?_; rintro e w1 ⟨rfl, hb1⟩; have hbh := Lib.hid hb1; clear hb1)
    go_ret2
    exact ⟨none, 0, by rw [hR.out]; rfl, by rw [hR.out]; exact OW.nil _ _ _, hbh.out⟩
  · obtain ⟨k, n, hk, rfl, rfl, hn, hok, hl24, hT⟩ := tok_parts ht
    have HT := Lib.hid fun W hW => H2.out k n hk hn hok W hW
    have hR := Lib.hid (show innerR es (k : Int) (n : Int) = ((mt es es[k] n).map Ti.ins).getD [] by
      unfold innerR
      unfold tokR at ht
      rw [hT] at ht ⊢
      cases hm : mt es es[k] n with
      | none => rw [hm] at ht; cases ht
      | some x => rfl)
    rw [ht] at H
    clear ht H2 hT hok hl24
    generalize mt es es[k] n = o at *
    clear hk
    go_enter Try.func35, Try.ntmps35
    go_wp2_with (first | (go_at_call 72; refine H.out.mono ?_; rintro e w1 ⟨rfl, hb1⟩; have hbh := Lib.hid hb1; clear hb1) | (go_at_call 73; (with_reducible refine (HT.out _ hbh.out).mono ?_); rintro e w2 ⟨PA, pc, QA, qc, rfl, hp, hq, hb2⟩; have hbi := Lib.hid (hbh.out.trans (hb2.mono hbh.out.size)); have hpp := Lib.hid (hq.lower hbh.out.size); clear hb2 hp hq))
    go_ret2
    exact ⟨QA, qc, by rw [hR.out]; rfl, by rw [hR.out]; exact hpp.out, hbi.out⟩
theorem sTileInner_k (L B : Nat) (A : Option Addr) (c : Nat) (es : List Nd) (i t : Int) (w : World) (hl : es.length ≤ 1048576) (hes : RS Nd.enc 4 w L B A es) (hB : B ≤ w.heap.size) :
    Calls Try.prog 35 #[.slice A es.length c, .int .i64 i, .int .i64 t] w (ResTileInner (innerR es i t) (tokR es i t) w) := sTileInner_any L B A c es i t w hl hes.ns hB
theorem iTileInner_k (L B : Nat) (A : Option Addr) (c : Nat) (es : List Nd) (i t : Int) (w : World) (hl : es.length ≤ 1048576) (hes : RS Nd.enc 4 w L B A es) (hB : B ≤ w.heap.size) :
    Calls Try.prog 36 #[.slice A es.length c, .int .i64 i, .int .i64 t] w (ResTileInner (innerR es i t) (tokR es i t) w) := iTileInner_any L B A c es i t w hl hes.ns hB
theorem innerR_len {es : List Nd} {i t : Int} : (innerR es i t).length ≤ 1048576 := by
  cases ht : tokR es i t
  · unfold tokR at ht
    unfold innerR
    rw [Option.isSome_eq_false_iff, Option.isNone_iff_eq_none] at ht
    rw [ht]; simp [noTi]
  · obtain ⟨k, n, hk, rfl, rfl, hn, hok, hl24, hT⟩ := tok_parts ht
    unfold innerR
    rw [hT]
    cases hm : mt es es[k] n with
    | none => simp [noTi]
    | some x => have := mt_len hm; simp only [Option.getD_some]; omega

set_option maxHeartbeats 2000000 in
theorem sTileCost_any (L B : Nat) (A : Option Addr) (c : Nat) (es : List Nd) (i t : Int) (w : World) (hl : es.length ≤ 1048576) (hes : NS w L B A es) (hB : B ≤ w.heap.size) :
    Calls Try.prog 37 #[.slice A es.length c, .int .i64 i, .int .i64 t] w (IntRes w (tcostR es i t) (tokR es i t)) := by
  have H := Lib.hid (cvAt_any L B A c es i t w hl hes hB)
  have H2 := Lib.hid fun (k n : Nat) (hk : k < es.length) (W : World) (hW : Below w.heap.size w W) => cvCost_any L B A c es k n hk W (hes.below hW hB)
  clear hes hB
  cases ht : tokR es i t
  · have hR := Lib.hid (show tcostR es i t = 0 by
      unfold tokR at ht
      unfold tcostR
      rw [Option.isSome_eq_false_iff, Option.isNone_iff_eq_none] at ht
      rw [ht]; rfl)
    rw [ht] at H
    clear ht H2
    go_enter Try.func37, Try.ntmps37
    go_wp2_with (go_at_call 72; refine H.out.mono ?_; rintro e w1 ⟨rfl, hb1⟩; have hbh := Lib.hid hb1; clear hb1)
    go_ret2
    exact ⟨by rw [hR.out]; rfl, hbh.out⟩
  · obtain ⟨k, n, hk, rfl, rfl, hn, hok, hl24, hT⟩ := tok_parts ht
    have HT := Lib.hid fun W hW => H2.out k n hk W hW
    have hR := Lib.hid (show tcostR es (k : Int) (n : Int) = ctN n es[k] by
      unfold tcostR
      unfold tokR at ht
      rw [hT] at ht ⊢
      cases hm : mt es es[k] n with
      | none => rw [hm] at ht; cases ht
      | some x => exact mt_c hm)
    rw [ht] at H
    clear ht H2 hT hok hl24
    generalize ctN n es[k] = R at *
    clear hk
    go_enter Try.func37, Try.ntmps37
    go_wp2_with (first | (go_at_call 72; refine H.out.mono ?_; rintro e w1 ⟨rfl, hb1⟩; have hbh := Lib.hid hb1; clear hb1) | (go_at_call 77; (with_reducible refine (HT.out _ hbh.out).mono ?_); rintro e w2 ⟨rfl, rfl⟩))
    go_ret2
    exact ⟨by rw [hR.out]; rfl, hbh.out⟩
theorem sTileCost_k (L B : Nat) (A : Option Addr) (c : Nat) (es : List Nd) (i t : Int) (w : World) (hl : es.length ≤ 1048576) (hes : RS Nd.enc 4 w L B A es) (hB : B ≤ w.heap.size) :
    Calls Try.prog 37 #[.slice A es.length c, .int .i64 i, .int .i64 t] w (ResTileCost (tcostR es i t) (tokR es i t) w) := sTileCost_any L B A c es i t w hl hes.ns hB
theorem iTileCost_k (L B : Nat) (A : Option Addr) (c : Nat) (es : List Nd) (i t : Int) (w : World) (hl : es.length ≤ 1048576) (hes : RS Nd.enc 4 w L B A es) (hB : B ≤ w.heap.size) :
    Calls Try.prog 38 #[.slice A es.length c, .int .i64 i, .int .i64 t] w (ResTileCost (tcostR es i t) (tokR es i t) w) := iTileCost_any L B A c es i t w hl hes.ns hB
end Go.Proofs.Ytdleiondfhmjdaa

/- TilesAt: the program and the model. -/
namespace Go.Proofs.Ytdleiondfhmjdaa
open Go.RowKit
set_option linter.unusedVariables false
set_option maxRecDepth 100000

def numsTo (es : List Nd) (nd : Nd) (k : Nat) : List Int := ((List.range k).filterMap (mt es nd)).map Ti.num
theorem numsTo_yes {es : List Nd} {nd : Nd} {k : Nat} (hk : k < 13) (h : (mt es nd k).isSome = true) : numsTo es nd (k + 1) = numsTo es nd k ++ [(k : Int)] := by
  cases hm : mt es nd k with
  | none => rw [hm] at h; cases h
  | some x =>
    unfold numsTo
    rw [List.range_succ, List.filterMap_append, List.map_append]
    simp [hm, mt_num hm]
theorem numsTo_no {es : List Nd} {nd : Nd} {k : Nat} (h : (mt es nd k).isSome = false) : numsTo es nd (k + 1) = numsTo es nd k := by
  rw [Option.isSome_eq_false_iff, Option.isNone_iff_eq_none] at h
  unfold numsTo
  rw [List.range_succ, List.filterMap_append, List.map_append]
  simp [h]
theorem numsTo_len (es : List Nd) (nd : Nd) (k : Nat) : (numsTo es nd k).length ≤ k := by
  unfold numsTo; rw [List.length_map]
  have := List.length_filterMap_le (mt es nd) (List.range k); simpa using this
theorem numsTo_all (es : List Nd) (nd : Nd) : numsTo es nd 13 = (tilesL es nd).map Ti.num := rfl
theorem tilesL_len (es : List Nd) (nd : Nd) : (tilesL es nd).length ≤ 13 := by
  unfold tilesL; have := List.length_filterMap_le (mt es nd) (List.range 13); simpa using this
def tatR (es : List Nd) (i : Int) : List Int := if tAt es i = true then (tilesL es (nodeAt es i)).map Ti.num else []
theorem tatR_len {es : List Nd} {i : Int} : (tatR es i).length ≤ 1048576 := by
  unfold tatR; split
  · rw [List.length_map]; have := tilesL_len es (nodeAt es i); omega
  · simp
theorem tAt_parts {es : List Nd} {i : Int} (h : tAt es i = true) : ∃ k : Nat, ∃ hk : k < es.length, i = (k : Int) ∧ okFrom es 0 = true ∧ es.length ≤ 24 ∧ tatR es i = (tilesL es es[k]).map Ti.num := by
  have h1 := h
  unfold tAt treeR at h1
  simp only [Bool.and_eq_true] at h1
  obtain ⟨⟨hg, _⟩, hi⟩ := h1
  obtain ⟨hl1, hl24, hok⟩ := good_len hg
  have hi2 := (inR_iff _ _ _).1 hi
  obtain ⟨k, rfl⟩ := Int.eq_ofNat_of_zero_le hi2.1
  have hk : k < es.length := by omega
  exact ⟨k, hk, rfl, hok, hl24, by unfold tatR; rw [if_pos h, nodeAt_nat hk]⟩

set_option maxHeartbeats 4000000 in
theorem cvTiles_any (L B : Nat) (A : Option Addr) (c : Nat) (es : List Nd) (k : Nat) (hk : k < es.length) (w : World) (hes : NS w L B A es) (hB : B ≤ w.heap.size) (hok : okFrom es 0 = true) :
    Calls Try.prog 80 #[.slice A es.length c, .int .i64 (k : Int)] w (OwnIs w (numsTo es es[k] 13)) := by
  obtain ⟨i0, hi, hz0, hz1, hz2⟩ := info_parts Try.infoInt
  have hI := Lib.hid hi
  have hZ0 := Lib.hid hz0
  have hZ1 := Lib.hid hz1
  have hZ2 := Lib.hid hz2
  clear hi hz0 hz1 hz2
  have hT := Lib.hid fun (n : Nat) (hn : n < 13) (W : World) (hW : Below w.heap.size w W) => cvTile_n L B A c es k hk n hn W (hes.below hW hB) (Nat.le_trans hB hW.size) hok
  have hY := Lib.hid fun (n : Nat) (hn : n < 13) => numsTo_yes (es := es) (nd := es[k]) hn
  have hN := Lib.hid fun (n : Nat) => numsTo_no (es := es) (nd := es[k]) (k := n)
  have hLn := Lib.hid (numsTo_len es es[k])
  have h00 : Hid (numsTo es es[k] 0 = []) := rfl
  have b0 := Lib.hid (Below.refl w.heap.size w)
  generalize numsTo es es[k] = nums at *
  generalize (mt es es[k]) = mts at *
  clear hes hB hok hk
  generalize es.length = m at *
  go_enter Try.func80, Try.ntmps80
  go_wp2
  go_loopw [5, 6] (fun v q wr => ∃ n : Nat, n ≤ 13 ∧ q = .int .i64 n ∧ OW wr w.heap.size wr.heap.size v (nums n) ∧ Below w.heap.size w wr) (fun _ q _ => 13 - (intOf q).toNat)
  case atStart => exact ⟨0, Nat.zero_le _, rfl, by rw [h00.out]; exact OW.nil _ _ _, b0.out⟩
  case round =>
    obtain ⟨n, hn, rfl, how, hbel⟩ := hrel
    obtain ⟨V, cv, rfl, _⟩ := how.form
    have hO := Lib.hid how
    have hBL := Lib.hid hbel
    have hl := Lib.hid (hLn.out n)
    clear how hbel
    by_cases hlt : n < 13
    · have hn13 : (n : Int) < 13 := by omega
      have hC := Lib.hid (hT.out n hlt)
      have hYn := Lib.hid (hY.out n hlt)
      have hNn := Lib.hid (hN.out n)
      generalize mts n = o at *
      generalize hnn : nums (n + 1) = xs' at *
      have hnn2 := Lib.hid hnn
      clear hnn
      generalize nums n = xs at *
      go_wp2_with (fail)
      refine (hC.out _ hBL.out).mono ?_
      rintro e w2 ⟨PA, pc, QA, qc, rfl, _, _, hb2⟩
      have hbi := Lib.hid (hBL.out.trans (hb2.mono hBL.out.size))
      have hO2 := Lib.hid ((hO.out.below hb2 (Nat.le_refl _)).more hb2.size)
      clear hb2
      cases ho : o.isSome
      · have hS := Lib.hid (hNn.out ho)
        go_wp2
        go_roundw
        case rel => exact ⟨n + 1, by omega, by go_num, by rw [hnn2.out, hS.out]; exact hO2.out, hbi.out⟩
        case measure => simp [intOf]; omega
      · have hS := Lib.hid (hYn.out ho)
        have ho2 := Lib.hid (hO2.out.1.alloc (.cells #[.int .i64 (n : Int)] 3))
        have hb3 := Lib.hid (hbi.out.alloc hbi.out.size (.cells #[.int .i64 (n : Int)] 3))
        have hlo := Lib.hid hO2.out.lo
        have hlen : xs.length ≤ 13 := by have := hl.out; omega
        go_wp2_with (at_builtin; go_loud (refine wpList_append_own _ rfl _ _ 23 rfl w.heap.size 3 i0 (.int .i64 0) 1 8 Try.underlying23 hI.out hZ0.out hZ1.out hZ2.out rfl (by decide) _ _ _ rfl ho2.out ⟨w2.heap.size, 0, none⟩ 1 1 [.int .i64 (n : Int)] rfl rfl (new1 rfl) (one1 _) (by unfold maxLen; omega) (by omega) (by have := hbi.out.size; simp; omega) ?_); intro v' w4 hown4 hgr4 _)
        have R1 := Lib.hid (OW.push (by simpa using hown4) : OW w4 w.heap.size w4.heap.size v' (xs ++ [(n : Int)]))
        have R2 := Lib.hid (hb3.out.grown hgr4 hb3.out.size (fun k hk => (hlo.out k hk).1))
        clear hown4 hgr4
        go_wp2
        go_roundw
        case rel => exact ⟨n + 1, by omega, by go_num, by rw [hnn2.out, hS.out]; exact R1.out, R2.out⟩
        case measure => simp [intOf]; omega
    · obtain rfl : n = 13 := by omega
      go_wp2
      go_ret
      exact ⟨V, cv, rfl, hO.out, hBL.out⟩
end Go.Proofs.Ytdleiondfhmjdaa

/- TilesAt: the program and the model. -/
namespace Go.Proofs.Ytdleiondfhmjdaa
open Go.RowKit
set_option linter.unusedVariables false
set_option maxRecDepth 100000

set_option maxHeartbeats 4000000 in
theorem sTilesAt_any (L B : Nat) (A : Option Addr) (c : Nat) (es : List Nd) (i : Int) (w : World) (hl : es.length ≤ 1048576) (hes : NS w L B A es) (hB : B ≤ w.heap.size) :
    Calls Try.prog 39 #[.slice A es.length c, .int .i64 i] w (IntsRes w (tatR es i) (tAt es i)) := by
  have H := Lib.hid (cvTree_any L B A c es w hl hes hB)
  have H2 := Lib.hid fun (k : Nat) (hk : k < es.length) (hok : okFrom es 0 = true) (W : World) (hW : Below w.heap.size w W) => cvTiles_any L B A c es k hk W (hes.below hW hB) (Nat.le_trans hB hW.size) hok
  clear hes hB
  have hl1 : (es.length : Int) ≤ 1048576 := by omega
  cases ht : treeR es
  · have hk := Lib.hid (show tAt es i = false by unfold tAt; rw [ht]; rfl)
    have hR := Lib.hid (show tatR es i = [] by unfold tatR; rw [if_neg (by rw [hk.out]; decide)])
    rw [ht] at H
    clear ht H2
    go_enter Try.func39, Try.ntmps39
    go_wp2_with (go_at_call 78; refine H.out.mono ?_; rintro e w1 ⟨rfl, hb1⟩; have hbh := Lib.hid hb1; clear hb1)
    go_ret2
    exact ⟨none, 0, by rw [hR.out, hk.out]; rfl, by rw [hR.out]; exact OW.nil _ _ _, hbh.out⟩
  have hlpos : 1 ≤ es.length := by
    unfold treeR at ht; simp only [Bool.and_eq_true] at ht; exact (good_len ht.1).1
  have hw1 : IntKind.i64.wrap ((es.length : Int) - 1) = (es.length : Int) - 1 := by rw [IntKind.wrap_i64]; omega
  cases hi : inR i 0 ((es.length : Int) - 1)
  · have hk := Lib.hid (show tAt es i = false by unfold tAt; rw [ht, hi]; rfl)
    have hR := Lib.hid (show tatR es i = [] by unfold tatR; rw [if_neg (by rw [hk.out]; decide)])
    have HI := Lib.hid fun (W : World) => l1In_r i 0 ((es.length : Int) - 1) W
    rw [hi] at HI
    rw [ht] at H
    clear ht H2 hi
    generalize es.length = m at *
    go_enter Try.func39, Try.ntmps39
    go_wp2_with (first | (go_at_call 78; refine H.out.mono ?_; rintro e w1 ⟨rfl, hb1⟩; have hbh := Lib.hid hb1; clear hb1) | (go_at_call 79; (with_reducible refine (HI.out _).mono ?_); rintro e w' ⟨rfl, rfl⟩))
    go_ret2
    exact ⟨none, 0, by rw [hR.out, hk.out]; rfl, by rw [hR.out]; exact OW.nil _ _ _, hbh.out⟩
  have hk : tAt es i = true := by unfold tAt; rw [ht, hi]; rfl
  obtain ⟨k, hkl, rfl, hok, hl24, hR⟩ := tAt_parts hk
  have hK := Lib.hid hk
  have hRR := Lib.hid hR
  have HI := Lib.hid fun (W : World) => l1In_r (k : Int) 0 ((es.length : Int) - 1) W
  have HT := Lib.hid fun W hW => H2.out k hkl hok W hW
  rw [numsTo_all] at HT
  rw [hi] at HI
  rw [ht] at H
  clear ht H2 hi hk hR hok
  generalize (tilesL es es[k]).map Ti.num = xs at *
  clear hkl
  generalize es.length = m at *
  go_enter Try.func39, Try.ntmps39
  go_wp2_with (first | (go_at_call 78; refine H.out.mono ?_; rintro e w1 ⟨rfl, hb1⟩; have hbh := Lib.hid hb1; clear hb1) | (go_at_call 79; (with_reducible refine (HI.out _).mono ?_); rintro e w' ⟨rfl, rfl⟩) | (go_at_call 80; (with_reducible refine (HT.out _ hbh.out).mono ?_); rintro e w2 ⟨V, cv, rfl, ho, hb2⟩; have hbi := Lib.hid (hbh.out.trans (hb2.mono hbh.out.size)); have hO := Lib.hid (ho.lower hbh.out.size); clear hb2 ho))
  go_ret2
  exact ⟨V, cv, by rw [hRR.out, hK.out]; rfl, by rw [hRR.out]; exact hO.out, hbi.out⟩

theorem numL_snoc {ts : List Ti} {k : Nat} (h : k < ts.length) : (ts.take (k + 1)).map Ti.num = (ts.take k).map Ti.num ++ [ts[k].num] := by
  rw [List.take_succ_eq_append_getElem h, List.map_append]; rfl
set_option maxHeartbeats 4000000 in
theorem iTilesAt_any (L B : Nat) (A : Option Addr) (c : Nat) (es : List Nd) (i : Int) (w : World) (hl : es.length ≤ 1048576) (hes : NS w L B A es) (hB : B ≤ w.heap.size) :
    Calls Try.prog 40 #[.slice A es.length c, .int .i64 i] w (IntsRes w (tatR es i) (tAt es i)) := by
  obtain ⟨i0, hi0, hz0, hz1, hz2⟩ := info_parts Try.infoInt
  have hI := Lib.hid hi0
  have hZ0 := Lib.hid hz0
  have hZ1 := Lib.hid hz1
  have hZ2 := Lib.hid hz2
  clear hi0 hz0 hz1 hz2
  have H := Lib.hid (iIsTree_any L B A c es w hl hes hB)
  have H2 := Lib.hid fun (k : Nat) (hk : k < es.length) (hl24 : es.length ≤ 24) (hok : okFrom es 0 = true) (W : World) (hW : Below w.heap.size w W) => tilesOf_w L B A c es k hk W (hes.below hW hB) (Nat.le_trans hB hW.size) hl24 hok
  clear hes hB
  cases ht : treeR es
  · have hk := Lib.hid (show tAt es i = false by unfold tAt; rw [ht]; rfl)
    have hR := Lib.hid (show tatR es i = [] by unfold tatR; rw [if_neg (by rw [hk.out]; decide)])
    rw [ht] at H
    clear ht H2
    go_enter Try.func40, Try.ntmps40
    go_wp2_with (go_at_call 81; refine H.out.mono ?_; rintro e w1 ⟨rfl, hb1⟩; have hbh := Lib.hid hb1; clear hb1)
    go_ret2
    exact ⟨none, 0, by rw [hR.out, hk.out]; rfl, by rw [hR.out]; exact OW.nil _ _ _, hbh.out⟩
  cases hi : inR i 0 ((es.length : Int) - 1)
  · have hk := Lib.hid (show tAt es i = false by unfold tAt; rw [ht, hi]; rfl)
    have hR := Lib.hid (show tatR es i = [] by unfold tatR; rw [if_neg (by rw [hk.out]; decide)])
    have HI := Lib.hid fun (W : World) => isIndex_any i (es.length : Int) W
    rw [hi] at HI
    rw [ht] at H
    clear ht H2 hi
    go_enter Try.func40, Try.ntmps40
    go_wp2_with (first | (go_at_call 81; refine H.out.mono ?_; rintro e w1 ⟨rfl, hb1⟩; have hbh := Lib.hid hb1; clear hb1) | (go_at_call 82; (with_reducible refine (HI.out _).mono ?_); rintro e w' ⟨rfl, rfl⟩))
    go_ret2
    exact ⟨none, 0, by rw [hR.out, hk.out]; rfl, by rw [hR.out]; exact OW.nil _ _ _, hbh.out⟩
  have hk : tAt es i = true := by unfold tAt; rw [ht, hi]; rfl
  obtain ⟨k, hkl, rfl, hok, hl24, hR⟩ := tAt_parts hk
  have hK := Lib.hid hk
  have hRR := Lib.hid hR
  have HI := Lib.hid fun (W : World) => isIndex_any (k : Int) (es.length : Int) W
  have HT := Lib.hid fun W hW => H2.out k hkl hl24 hok W hW
  have hLen := Lib.hid (tilesL_len es es[k])
  rw [hi] at HI
  rw [ht] at H
  clear ht H2 hi hk hR hok
  generalize tilesL es es[k] = ts at *
  clear hkl
  generalize es.length = m at *
  go_enter Try.func40, Try.ntmps40
  go_wp2_with (first | (go_at_call 81; refine H.out.mono ?_; rintro e w1 ⟨rfl, hb1⟩; have hbh := Lib.hid hb1; clear hb1) | (go_at_call 82; (with_reducible refine (HI.out _).mono ?_); rintro e w' ⟨rfl, rfl⟩))
  refine (HT.out _ hbh.out).mono ?_
  rintro e w2 ⟨TA, tc, rs, rfl, hrs, hall, hb2⟩
  have hb2h := Lib.hid (hbh.out.trans (hb2.mono hbh.out.size))
  have hRS := Lib.hid hrs
  have hAL := Lib.hid hall
  clear hb2 hrs hall HT H hbh
  have hl2 := hLen.out
  go_wp2_with (fail)
  go_loopw [8, 29] (fun v q wr => ∃ j : Nat, j ≤ ts.length ∧ q = .int .i64 j ∧ OW wr w2.heap.size wr.heap.size v ((ts.take j).map Ti.num) ∧ Below w2.heap.size w2 wr) (fun _ q _ => ts.length - (intOf q).toNat)
  case atStart => exact ⟨0, Nat.zero_le _, rfl, OW.nil _ _ _, Below.refl _ _⟩
  case round =>
    obtain ⟨j, hj, rfl, how, hbr⟩ := hrel
    obtain ⟨V, cv, rfl, _⟩ := how.form
    have hO := Lib.hid how
    have hBr := Lib.hid hbr
    have hzr := hbr.size
    clear how hbr
    by_cases hlt : j < ts.length
    · have hjr : j < rs.length := by rw [hAL.out.1]; exact hlt
      have hok4 := hAL.out.2 j hjr hlt
      obtain ⟨tb, to', rfl, ⟨_, htb⟩, hcc⟩ := (hRS.out.below hBr.out (Nat.le_refl _)) (by omega)
      have x1 := hcc j hjr 0 _ rfl
      have x2 := hcc j hjr 1 _ rfl
      have x3 := hcc j hjr 2 _ rfl
      have x4 := hcc j hjr 3 _ rfl
      simp only [Nat.add_zero] at x1
      have hS := Lib.hid (numL_snoc hlt)
      have hlen : ((ts.take j).map Ti.num).length ≤ 13 := by rw [List.length_map, List.length_take]; omega
      generalize rs[j] = r at *
      obtain ⟨PA, pc, QA, qc, rfl, hp, hq⟩ := hok4.form
      dsimp only at x1 x2 x3 x4
      clear hcc hok4 hp hq
      generalize ts[j] = x at *
      generalize (ts.take j).map Ti.num = xs at *
      have hbx := (Below.refl wr.heap.size wr).alloc (Nat.le_refl _) (.cells #[.int .i64 x.num, .slice PA x.ps.length pc, .slice QA x.ins.length qc, .int .i64 x.c] 91)
      have hBx := Lib.hid (hBr.out.trans (hbx.mono hzr))
      have hOx := (hO.out.below hbx (Nat.le_refl _)).more hbx.size
      have ho2 := Lib.hid (hOx.1.alloc (.cells #[.int .i64 x.num] 3))
      have hlo := Lib.hid hOx.lo
      have hzx := World.size_alloc wr (.cells #[.int .i64 x.num, .slice PA x.ps.length pc, .slice QA x.ins.length qc, .int .i64 x.c] 91)
      have hb3 := Lib.hid (hBx.out.alloc hBx.out.size (.cells #[.int .i64 x.num] 3))
      clear hbx hOx
      go_wp2_with (at_builtin; go_loud (refine wpList_append_own _ rfl _ _ 23 rfl w2.heap.size 3 i0 (.int .i64 0) 1 8 Try.underlying23 hI.out hZ0.out hZ1.out hZ2.out rfl (by decide) _ _ _ rfl ho2.out ⟨wr.heap.size + 1, 0, none⟩ 1 1 [.int .i64 x.num] rfl rfl (new1 (by simp)) (one1 _) (by unfold maxLen; omega) (by omega) (by simp; omega) ?_); intro v' w4 hown4 hgr4 _)
      have R1 := Lib.hid (OW.push (by simpa using hown4) : OW w4 w2.heap.size w4.heap.size v' (xs ++ [x.num]))
      have R2 := Lib.hid (hb3.out.grown hgr4 hb3.out.size (fun k hk => (hlo.out k hk).1))
      clear hown4 hgr4
      go_wp2
      go_roundw
      case rel => exact ⟨j + 1, by omega, by go_num, by rw [hS.out]; exact R1.out, R2.out⟩
      case measure => simp [intOf]; omega
    · obtain rfl : j = ts.length := by omega
      rw [List.take_length] at hO
      go_wp2
      go_ret2
      exact ⟨V, cv, by rw [hRR.out, hK.out]; simp only [List.take_length]; rfl, by rw [hRR.out]; exact hO.out.lower hb2h.out.size, hb2h.out.trans (hBr.out.mono hb2h.out.size)⟩
theorem sTilesAt_k (L B : Nat) (A : Option Addr) (c : Nat) (es : List Nd) (i : Int) (w : World) (hl : es.length ≤ 1048576) (hes : RS Nd.enc 4 w L B A es) (hB : B ≤ w.heap.size) :
    Calls Try.prog 39 #[.slice A es.length c, .int .i64 i] w (ResTilesAt (tatR es i) (tAt es i) w) := sTilesAt_any L B A c es i w hl hes.ns hB
theorem iTilesAt_k (L B : Nat) (A : Option Addr) (c : Nat) (es : List Nd) (i : Int) (w : World) (hl : es.length ≤ 1048576) (hes : RS Nd.enc 4 w L B A es) (hB : B ≤ w.heap.size) :
    Calls Try.prog 40 #[.slice A es.length c, .int .i64 i] w (ResTilesAt (tatR es i) (tAt es i) w) := iTilesAt_any L B A c es i w hl hes.ns hB
end Go.Proofs.Ytdleiondfhmjdaa

/- What a node needs, and nodes moved to new places. No program. -/
namespace Go.Proofs.Ytdleiondfhmjdaa
open Go.RowKit
set_option linter.unusedVariables false

def setAll (ps : List Int) (b : List Bool) : List Bool := ps.foldl (fun b p => b.set p.toNat true) b
theorem setAll_len (ps : List Int) : ∀ b, (setAll ps b).length = b.length := by
  induction ps with
  | nil => intro b; rfl
  | cons a l ih => intro b; show (setAll l (b.set a.toNat true)).length = _; rw [ih, List.length_set]
theorem setAll_snoc (ps : List Int) (p : Int) (b : List Bool) : setAll (ps ++ [p]) b = (setAll ps b).set p.toNat true := by simp [setAll, List.foldl_append]
theorem getD_set_ne {b : List Bool} {i k : Nat} (x : Bool) (h : k ≠ i) : (b.set k x).getD i false = b.getD i false := by
  rw [List.getD_eq_getElem?_getD, List.getD_eq_getElem?_getD, List.getElem?_set_ne h]
theorem setAll_get {i : Nat} (ps : List Int) : ∀ b, (∀ p ∈ ps, p.toNat ≠ i) → (setAll ps b).getD i false = b.getD i false := by
  induction ps with
  | nil => intro b _; rfl
  | cons a l ih =>
    intro b h
    show (setAll l (b.set a.toNat true)).getD i false = _
    rw [ih _ (fun p hp => h p (by simp [hp])), getD_set_ne _ (h a (by simp))]
/-- Behind j parts of the node i. -/
def nstep (n : Nd) (i : Nat) (b : List Bool) (j : Nat) : List Bool := if b.getD i false = true then setAll ((parts n).take j) b else b
theorem nstep_len (n : Nd) (i : Nat) (b : List Bool) (j : Nat) : (nstep n i b j).length = b.length := by
  unfold nstep; split
  · exact setAll_len _ _
  · rfl
theorem nstep_zero (n : Nd) (i : Nat) (b : List Bool) : nstep n i b 0 = b := by unfold nstep; split <;> rfl
theorem nstep_self {n : Nd} {i : Nat} (b : List Bool) (j : Nat) (h : ∀ p ∈ parts n, 0 ≤ p ∧ p ≤ (i : Int) - 1) : (nstep n i b j).getD i false = b.getD i false := by
  unfold nstep; split
  · exact setAll_get _ _ (fun p hp => by have := h p (List.mem_of_mem_take hp); omega)
  · rfl
theorem nstep_succ {n : Nd} {i : Nat} {b : List Bool} {j : Nat} (hj : j < (parts n).length) (h : ∀ p ∈ parts n, 0 ≤ p ∧ p ≤ (i : Int) - 1) :
    (nstep n i b j).set ((parts n)[j]).toNat ((nstep n i b j).getD ((parts n)[j]).toNat false || b.getD i false) = nstep n i b (j + 1) := by
  unfold nstep
  by_cases hb : b.getD i false = true
  · rw [if_pos hb, if_pos hb, hb, Bool.or_true, List.take_succ_eq_append_getElem hj, setAll_snoc]
  · rw [if_neg hb, if_neg hb]
    have hb' : b.getD i false = false := by simpa using hb
    rw [hb', Bool.or_false]
    apply List.ext_getElem?
    intro q
    rw [List.getElem?_set]
    split
    · rename_i hq; subst hq
      split
      · rename_i hlt; rw [List.getD_eq_getElem?_getD, List.getElem?_eq_getElem hlt]; rfl
      · rename_i hge; rw [List.getElem?_eq_none (by omega)]
    · rfl
def nfull (n : Nd) (i : Nat) (b : List Bool) : List Bool := nstep n i b (parts n).length
def needFrom (es : List Nd) (root : Nat) : Nat → List Bool
  | 0 => (List.replicate (root + 1) false).set root true
  | k + 1 => nfull (es.getD (root - k) zeroNd) (root - k) (needFrom es root k)
theorem needFrom_len (es : List Nd) (root : Nat) : ∀ k, (needFrom es root k).length = root + 1 := by
  intro k
  induction k with
  | zero => simp [needFrom]
  | succ k ih => rw [needFrom, nfull, nstep_len, ih]
/-- What is needed when the nodes from q on have been seen. -/
def needTo (es : List Nd) (root q : Nat) : List Bool := needFrom es root (root + 1 - q)
def need (es : List Nd) (root : Nat) : List Bool := needTo es root 0
theorem needTo_len (es : List Nd) (root q : Nat) : (needTo es root q).length = root + 1 := needFrom_len _ _ _
theorem needTo_start (es : List Nd) (root : Nat) : needTo es root (root + 1) = (List.replicate (root + 1) false).set root true := by
  unfold needTo; rw [Nat.sub_self]; rfl
theorem needTo_step {es : List Nd} {root m : Nat} (hm : m ≤ root) (hr : root < es.length) : needTo es root m = nfull (es[m]'(by omega)) m (needTo es root (m + 1)) := by
  unfold needTo
  rw [show root + 1 - m = (root + 1 - (m + 1)) + 1 by omega, needFrom, show root - (root + 1 - (m + 1)) = m by omega, List.getD_eq_getElem?_getD, List.getElem?_eq_getElem (by omega)]
  rfl

/-- A node whose operands have new places. -/
def moved (n : Nd) (ps : List Int) : Nd := ⟨n.op, if 0 < ar n.op then ps.getD n.a.toNat 0 else 0, if 1 < ar n.op then ps.getD n.b.toNat 0 else 0, n.v⟩
def kp (es : List Nd) (nb : List Bool) (m : Nat) : Nat → List Int × List Nd
  | 0 => (zeros m, [])
  | k + 1 => if nb.getD k false = true then (((kp es nb m k).1).set k ((kp es nb m k).2.length : Int), (kp es nb m k).2 ++ [moved (es.getD k zeroNd) (kp es nb m k).1]) else kp es nb m k
def pl (es : List Nd) (nb : List Bool) (m k : Nat) : List Int := (kp es nb m k).1
def ke (es : List Nd) (nb : List Bool) (m k : Nat) : List Nd := (kp es nb m k).2
theorem pl_len (es : List Nd) (nb : List Bool) (m : Nat) : ∀ k, (pl es nb m k).length = m := by
  intro k
  induction k with
  | zero => simp [pl, kp, zeros]
  | succ k ih =>
    unfold pl kp; split
    · rw [List.length_set]; exact ih
    · exact ih
theorem ke_len (es : List Nd) (nb : List Bool) (m : Nat) : ∀ k, (ke es nb m k).length ≤ k := by
  intro k
  induction k with
  | zero => simp [ke, kp]
  | succ k ih =>
    unfold ke kp; split
    · rw [List.length_append]; simp only [List.length_cons, List.length_nil]; unfold ke at ih; omega
    · unfold ke at ih; omega
theorem kp_yes {es : List Nd} {nb : List Bool} {m k : Nat} (hk : k < es.length) (h : nb.getD k false = true) :
    pl es nb m (k + 1) = (pl es nb m k).set k ((ke es nb m k).length : Int) ∧ ke es nb m (k + 1) = ke es nb m k ++ [moved es[k] (pl es nb m k)] := by
  unfold pl ke
  rw [kp, if_pos h, List.getD_eq_getElem?_getD, List.getElem?_eq_getElem hk]
  exact ⟨rfl, rfl⟩
theorem kp_no {es : List Nd} {nb : List Bool} {m k : Nat} (h : nb.getD k false = false) : pl es nb m (k + 1) = pl es nb m k ∧ ke es nb m (k + 1) = ke es nb m k := by
  unfold pl ke
  rw [kp, if_neg (by rw [h]; decide)]
  exact ⟨rfl, rfl⟩
def keepL (es : List Nd) (root : Nat) : List Nd := ke es (need es root) (root + 1) (root + 1)
theorem getD_set_lt {ps : List Int} {i k : Nat} (x : Int) (h : i < k) : (ps.set k x).getD i 0 = ps.getD i 0 := by
  rw [List.getD_eq_getElem?_getD, List.getD_eq_getElem?_getD, List.getElem?_set_ne (by omega)]
theorem ar_cases_nd {n : Nd} {i : Int} (h : isNode n i = true) : (ar n.op = 0 ∧ isOne n.op = false ∧ isTwo n.op = false ∧ n.a = 0 ∧ n.b = 0) ∨ (ar n.op = 1 ∧ isOne n.op = true ∧ isTwo n.op = false ∧ 0 ≤ n.a ∧ n.a < i ∧ n.b = 0) ∨ (ar n.op = 2 ∧ isOne n.op = false ∧ isTwo n.op = true ∧ 0 ≤ n.a ∧ n.a < i ∧ 0 ≤ n.b ∧ n.b < i) := by
  unfold isNode at h
  unfold ar
  by_cases h1 : isIn n.op = true
  · rw [if_pos h1] at h
    simp only [Bool.and_eq_true, beq_iff_eq] at h
    have hx : n.op.toList = [105,110] := by simpa [isIn] using h1
    left; refine ⟨by simp [h1], ?_, ?_, h.1.1, h.1.2⟩ <;> simp [isOne, isTwo, twoOps, hx]
  · rw [if_neg h1] at h
    by_cases h2 : isConst n.op = true
    · rw [if_pos h2] at h
      simp only [Bool.and_eq_true, beq_iff_eq] at h
      have hx : n.op.toList = [99,111,110,115,116] := by simpa [isConst] using h2
      left; refine ⟨by simp [h2], ?_, ?_, h.1.1, h.1.2⟩ <;> simp [isOne, isTwo, twoOps, hx]
    · rw [if_neg h2] at h
      by_cases h3 : isOne n.op = true
      · rw [if_pos h3] at h
        simp only [Bool.and_eq_true, beq_iff_eq] at h
        have h4 := (inR_iff _ _ _).1 h.1.1
        have h5 : isTwo n.op = false := by
          cases h6 : isTwo n.op
          · rfl
          · have := two_not_one _ h6; rw [this] at h3; cases h3
        right; left; exact ⟨by simp [h1, h2, h3], h3, h5, h4.1, by omega, h.1.2⟩
      · rw [if_neg h3] at h
        simp only [Bool.and_eq_true, beq_iff_eq] at h
        have h4 := (inR_iff _ _ _).1 h.1.1.2
        have h5 := (inR_iff _ _ _).1 h.1.2
        right; right; exact ⟨by simp [h1, h2, h3, h.1.1.1], by simpa using h3, h.1.1.1, h4.1, by omega, h5.1, by omega⟩
theorem moved_set {n : Nd} {k : Nat} (h : isNode n k = true) (ps : List Int) (x : Int) : moved n (ps.set k x) = moved n ps := by
  unfold moved
  rcases ar_cases_nd h with ⟨h1, _, _, _, _⟩ | ⟨h1, _, _, h2, h3, _⟩ | ⟨h1, _, _, h2, h3, h4, h5⟩
  · simp [h1]
  · simp only [h1]; rw [getD_set_lt _ (by omega)]; simp
  · simp only [h1]; rw [getD_set_lt _ (by omega), getD_set_lt _ (by omega)]
end Go.Proofs.Ytdleiondfhmjdaa

/- Counts of covers, plain. -/
namespace Go.Proofs.Ytdleiondfhmjdaa
open Go.RowKit
set_option linter.unusedVariables false

theorem isOne_parts {n : Nd} (h : isOne n.op = true) : parts n = [n.a] := by simp [parts, h]
theorem mt_ps {es : List Nd} (hok : okFrom es 0 = true) {k : Nat} (hk : k < es.length) {n : Nat} {x : Ti} (h : mt es es[k] n = some x) : ∀ p ∈ x.ps, 0 ≤ p ∧ p < (k : Int) := by
  have hn := ok_get hok hk
  match n with
  | 0 | 1 =>
    simp only [mt] at h
    split at h
    · injection h with h; subst h; intro p hp; simp at hp
    · cases h
  | 2 =>
    simp only [mt] at h
    split at h
    · rename_i ho
      injection h with h; subst h; intro p hp
      have := isNode_parts hn p (by rw [isOne_parts ho]; exact hp)
      omega
    · cases h
  | 3 =>
    simp only [mt] at h
    split at h
    · rename_i ho
      injection h with h; subst h; intro p hp
      have := two_bd hn ho
      simp at hp
      rcases hp with rfl | rfl <;> omega
    · cases h
  | m + 4 =>
    simp only [mt] at h
    rw [Option.bind_eq_some_iff] at h
    obtain ⟨f, hf, h⟩ := h
    have hfm : f ∈ fos := List.mem_of_getElem? hf
    unfold foO at h
    split at h
    · rename_i ho
      injection h with h; subst h
      unfold foOk at ho
      rw [Bool.and_eq_true] at ho
      have h2 := two_bd hn (two_of_has hfm ho.1)
      have hP : 0 ≤ fPart f es[k] ∧ fPart f es[k] < (k : Int) := by unfold fPart; split <;> omega
      have hT : 0 ≤ fTaken f es[k] ∧ fTaken f es[k] < (k : Int) := by unfold fTaken; split <;> omega
      intro p hp
      unfold foTi at hp
      cases hb : noBtw f
      · rw [if_neg (by rw [hb]; decide)] at hp
        rw [if_neg (by rw [hb]; decide), Bool.and_eq_true] at ho
        obtain ⟨j, hj⟩ := Int.eq_ofNat_of_zero_le hT.1
        have hjk : j < es.length := by omega
        rw [hj, nodeAt_nat hjk] at hp ho
        have hb2 : isTwo es[j].op = true := by
          have e : es[j].op.toList = f.btw.toList := by simpa using ho.2.1
          have := two_of_btw hfm hb
          unfold isTwo at this ⊢; rw [e]; exact this
        have h3 := two_bd (ok_get hok hjk) hb2
        simp at hp
        rcases hp with rfl | rfl
        · exact hP
        · omega
      · rw [if_pos (by rw [hb])] at hp
        simp at hp; subst hp; exact hP
    · cases h
/-- The tiles of a node by their places: their numbers, and what they are. -/
theorem tilesL_at {es : List Nd} (nd : Nd) {j : Nat} (hj : j < (tilesL es nd).length) : ∃ n : Nat, n < 13 ∧ (tilesL es nd)[j].num = (n : Int) ∧ mt es nd n = some (tilesL es nd)[j] := by
  have hm : (tilesL es nd)[j] ∈ tilesL es nd := List.getElem_mem hj
  have hm2 := hm
  unfold tilesL at hm2
  rw [List.mem_filterMap] at hm2
  obtain ⟨n, hn, hx⟩ := hm2
  have hx' : mt es nd n = some (tilesL es nd)[j] := hx
  exact ⟨n, List.mem_range.1 hn, mt_num hx', hx'⟩

def wyTo (cs ps : List Int) (k : Nat) : Int := (ps.take k).foldl (fun c p => wrap64 (c * cs.getD p.toNat 0)) 1
theorem wyTo_zero (cs ps : List Int) : wyTo cs ps 0 = 1 := rfl
theorem wyTo_succ (cs : List Int) {ps : List Int} {k : Nat} (h : k < ps.length) : wyTo cs ps (k + 1) = wrap64 (wyTo cs ps k * cs.getD ps[k].toNat 0) := by
  unfold wyTo; rw [List.take_succ_eq_append_getElem h, List.foldl_append]; rfl
def cnStep (i : Nat) (c : List Int) (x : Ti) : List Int := c.set i (wrap64 (c.getD i 0 + wyTo c x.ps x.ps.length))
def cnTo (i : Nat) (cs : List Int) (ts : List Ti) (j : Nat) : List Int := (ts.take j).foldl (cnStep i) cs
theorem cnTo_zero (i : Nat) (cs : List Int) (ts : List Ti) : cnTo i cs ts 0 = cs := rfl
theorem cnTo_succ (i : Nat) (cs : List Int) {ts : List Ti} {j : Nat} (h : j < ts.length) : cnTo i cs ts (j + 1) = cnStep i (cnTo i cs ts j) ts[j] := by
  unfold cnTo; rw [List.take_succ_eq_append_getElem h, List.foldl_append]; rfl
theorem cnTo_len (i : Nat) (cs : List Int) (ts : List Ti) : ∀ j, (cnTo i cs ts j).length = cs.length := by
  intro j
  unfold cnTo
  generalize ts.take j = l
  induction l generalizing cs with
  | nil => rfl
  | cons x l ih => rw [List.foldl_cons, ih]; simp [cnStep]
def ccTo (es : List Nd) (k : Nat) : List Int := (List.range k).foldl (fun c i => cnTo i c (tilesL es (nodeAt es (i : Int))) (tilesL es (nodeAt es (i : Int))).length) (zeros es.length)
theorem ccTo_zero (es : List Nd) : ccTo es 0 = zeros es.length := rfl
theorem ccTo_succ (es : List Nd) {k : Nat} (h : k < es.length) : ccTo es (k + 1) = cnTo k (ccTo es k) (tilesL es es[k]) (tilesL es es[k]).length := by
  unfold ccTo; rw [List.range_succ, List.foldl_append]; simp only [List.foldl_cons, List.foldl_nil]; rw [nodeAt_nat h]
theorem ccTo_len (es : List Nd) : ∀ k, (ccTo es k).length = es.length
  | 0 => by rw [ccTo_zero]; simp [zeros]
  | k + 1 => by
    unfold ccTo
    rw [List.range_succ, List.foldl_append]
    simp only [List.foldl_cons, List.foldl_nil]
    rw [cnTo_len]; exact ccTo_len es k
/-- The tiles of the node at a place. -/
def tsN (es : List Nd) (k : Nat) : List Ti := tilesL es (nodeAt es (k : Int))
theorem tsN_eq {es : List Nd} {k : Nat} (h : k < es.length) : tsN es k = tilesL es es[k] := by unfold tsN; rw [nodeAt_nat h]
theorem ccTo_next (es : List Nd) (k : Nat) : ccTo es (k + 1) = cnTo k (ccTo es k) (tsN es k) (tsN es k).length := by
  unfold ccTo tsN; rw [List.range_succ, List.foldl_append]; rfl
theorem tsN_ps {es : List Nd} (hok : okFrom es 0 = true) {k : Nat} (hk : k < es.length) : ∀ x ∈ tsN es k, ∀ p ∈ x.ps, 0 ≤ p ∧ p < (k : Int) := by
  intro x hx
  rw [tsN_eq hk] at hx
  obtain ⟨j, hj, rfl⟩ := List.getElem_of_mem hx
  obtain ⟨n, _, _, hm⟩ := tilesL_at (es := es) es[k] hj
  exact mt_ps hok hk hm
theorem tsN_ps2 {es : List Nd} {k : Nat} : ∀ x ∈ tsN es k, x.ps.length ≤ 2 := by
  intro x hx
  obtain ⟨j, hj, rfl⟩ := List.getElem_of_mem hx
  obtain ⟨n, _, _, hm⟩ := tilesL_at (es := es) (nodeAt es (k : Int)) hj
  exact (mt_len hm).1
def ccR (es : List Nd) : Int := if treeR es = true then (ccTo es es.length).getD (es.length - 1) 0 else 0
end Go.Proofs.Ytdleiondfhmjdaa

/- Tables and inputs. No program. -/
namespace Go.Proofs.Ytdleiondfhmjdaa
open Go.RowKit
set_option linter.unusedVariables false

/-- A list of f's values at the first n inputs. -/
def tabTo (f : Int → Int → Int) (n : Nat) : List Int := (List.range n).map fun i => f ((i / 64 : Nat) : Int) ((i % 64 : Nat) : Int)
theorem tabTo_len (f : Int → Int → Int) (n : Nat) : (tabTo f n).length = n := by simp [tabTo]
theorem tabTo_succ (f : Int → Int → Int) (k j : Nat) (h : j < 64) : tabTo f (64 * k + (j + 1)) = tabTo f (64 * k + j) ++ [f k j] := by
  unfold tabTo
  rw [← Nat.add_assoc, List.range_succ, List.map_append]
  have h1 : (64 * k + j) / 64 = k := by omega
  have h2 : (64 * k + j) % 64 = j := by omega
  simp only [List.map_cons, List.map_nil, h1, h2]
theorem tabTo_next (f : Int → Int → Int) (k : Nat) : tabTo f (64 * k + 64) = tabTo f (64 * (k + 1) + 0) := by
  rw [Nat.mul_add]

def inStep (out : List Int) (n : Nd) : List Int := if isIn n.op = true then put out n.v else out
def inTo (es : List Nd) (k : Nat) : List Int := (es.take k).foldl inStep []
def isInp (n : Nd) (k : Int) : Bool := isIn n.op && n.v == k
def hasIn (es : List Nd) (k : Int) : Bool := es.any fun n => isInp n k
def twoOf (a b : Bool) : List Int := (if a = true then [0] else []) ++ (if b = true then [1] else [])
theorem inTo_succ {es : List Nd} {k : Nat} (h : k < es.length) : inTo es (k + 1) = inStep (inTo es k) es[k] := by
  unfold inTo; rw [List.take_succ_eq_append_getElem h, List.foldl_append]; rfl
theorem hasIn_snoc {es : List Nd} {k : Nat} (h : k < es.length) (q : Int) : hasIn (es.take (k + 1)) q = (hasIn (es.take k) q || isInp es[k] q) := by
  unfold hasIn; rw [List.take_succ_eq_append_getElem h, List.any_append]; simp
theorem inTo_eq {es : List Nd} (hok : ∀ k (h : k < es.length), isIn es[k].op = true → es[k].v = 0 ∨ es[k].v = 1) : ∀ k, k ≤ es.length → inTo es k = twoOf (hasIn (es.take k) 0) (hasIn (es.take k) 1) := by
  intro k
  induction k with
  | zero => intro _; rfl
  | succ k ih =>
    intro hk
    rw [inTo_succ (by omega), hasIn_snoc (by omega), hasIn_snoc (by omega), ih (by omega)]
    have hv := hok k (by omega)
    generalize es[k] = n at *
    generalize hasIn (es.take k) 0 = a
    generalize hasIn (es.take k) 1 = b
    unfold inStep isInp
    cases hn : isIn n.op
    · simp
    · rcases hv hn with h | h <;> rw [h] <;> cases a <;> cases b <;> decide
theorem twoOf_len (a b : Bool) : (twoOf a b).length ≤ 2 := by cases a <;> cases b <;> decide
end Go.Proofs.Ytdleiondfhmjdaa
