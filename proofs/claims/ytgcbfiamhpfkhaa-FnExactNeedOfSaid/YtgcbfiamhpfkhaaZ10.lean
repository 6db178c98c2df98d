/- Texts of this proof, one behind the other: EU, LawEA, EV, EW, EX, TM. -/
import Derived.Test.YtgcbfiamhpfkhaaZ14
import Derived.Test.YtgcbfiamhpfkhaaZ11
import Derived.WalkKit
import Derived.WalkSpells
import Derived.WalkLawsBesides
import Derived.Lib.Hide
import Derived.Test.YtgcbfiamhpfkhaaLI
import Derived.Test.YtgcbfiamhpfkhaaKNode
import Derived.Test.YtgcbfiamhpfkhaaKMNode
import Derived.Test.YtgcbfiamhpfkhaaZ15
import Derived.Test.YtgcbfiamhpfkhaaM
/- The model's TileParts, TileInner, TileCost. -/
namespace Go.Proofs.Ytgcbfiamhpfkhaa
open Go.RowKit
set_option linter.unusedVariables false

def ctN (n : Nat) (nd : Nd) : Int := if n = 0 then 0 else if n = 3 then cst nd.op else 1
theorem foO_c {es : List Nd} {nd : Nd} {f : Fo} {x : Ti} (h : foO es nd f = some x) : x.c = 1 := by
  unfold foO at h
  split at h
  · injection h with h; subst h; unfold foTi; split <;> rfl
  · cases h
theorem mt_c {es : List Nd} {nd : Nd} {n : Nat} {x : Ti} (h : mt es nd n = some x) : x.c = ctN n nd := by
  match n with
  | 0 | 1 | 2 | 3 =>
    simp only [mt] at h
    split at h
    · injection h with h
      subst h
      rfl
    · cases h
  | m + 4 =>
    simp only [mt] at h
    rw [Option.bind_eq_some_iff] at h
    obtain ⟨f, _, h⟩ := h
    rw [foO_c h]
    unfold ctN
    rw [if_neg (by omega), if_neg (by omega)]
/-- What a tile that is told is. -/
theorem tok_parts {es : List Nd} {i t : Int} (h : tokR es i t = true) : ∃ k n : Nat, ∃ hk : k < es.length, i = (k : Int) ∧ t = (n : Int) ∧ n < 13 ∧ okFrom es 0 = true ∧ es.length ≤ 24 ∧ tOf es i t = mt es es[k] n := by
  unfold tokR at h
  unfold tOf at h ⊢
  by_cases h1 : tAt es i = true
  · rw [if_pos h1] at h ⊢
    unfold tAt treeR at h1
    simp only [Bool.and_eq_true] at h1
    obtain ⟨⟨hg, _⟩, hi⟩ := h1
    obtain ⟨hl1, hl24, hok⟩ := good_len hg
    have hi2 := (inR_iff _ _ _).1 hi
    obtain ⟨k, rfl⟩ := Int.eq_ofNat_of_zero_le hi2.1
    have hk : k < es.length := by omega
    rw [nodeAt_nat hk] at h ⊢
    unfold tileO at h ⊢
    by_cases h2 : inR t 0 12 = true
    · rw [if_pos h2]
      have ht := (inR_iff _ _ _).1 h2
      obtain ⟨n, rfl⟩ := Int.eq_ofNat_of_zero_le ht.1
      exact ⟨k, n, hk, rfl, rfl, by omega, hok, hl24, rfl⟩
    · rw [if_neg h2] at h; cases h
  · rw [if_neg h1] at h; cases h
theorem tok_no {es : List Nd} {i t : Int} (h : treeR es = false ∨ inR i 0 ((es.length : Int) - 1) = false ∨ inR t 0 12 = false) : tokR es i t = false := by
  unfold tokR tOf tAt tileO
  rcases h with h | h | h
  · rw [h]; rfl
  · rw [h, Bool.and_false]; rfl
  · split
    · rw [h]; rfl
    · rfl

set_option maxHeartbeats 2000000 in
theorem cvCost_any (L B : Nat) (A : Option Addr) (c : Nat) (es : List Nd) (k n : Nat) (hk : k < es.length) (w : World) (hes : NS w L B A es) :
    Calls Try.prog 125 #[.slice A es.length c, .int .i64 (k : Int), .int .i64 (n : Int)] w fun e w' => e = .returned (.int .i64 (ctN n es[k])) ∧ w = w' := by
  have k1 : (k : Int) < (es.length : Int) := by omega
  obtain ⟨b0, o0, rfl, _, hc⟩ := hes (by omega)
  obtain ⟨c1, c2, c3, c4⟩ := hc k hk
  clear hc hes
  by_cases h0 : n = 0
  · subst h0
    have hR : Hid (ctN 0 es[k] = 0) := rfl
    generalize ctN 0 es[k] = R at *
    go_enter Try.func125, Try.ntmps125
    go_wp2
    go_ret
    exact ⟨by rw [hR.out]; rfl, rfl⟩
  by_cases h3 : n = 3
  · subst h3
    have hR : Hid (ctN 3 es[k] = cst es[k].op) := rfl
    generalize ctN 3 es[k] = R at *
    generalize es[k] = nd at *
    obtain ⟨s, a, b, v⟩ := nd
    dsimp only at c1 c2 c3 c4 hR
    go_enter Try.func125, Try.ntmps125
    go_wp2_with (go_at_call 164; refine (ruCdCost_any _ _).mono ?_; rintro e w' ⟨rfl, rfl⟩)
    go_ret
    exact ⟨by rw [hR.out]; rfl, rfl⟩
  · have hR : Hid (ctN n es[k] = 1) := by unfold Hid ctN; rw [if_neg h0, if_neg h3]
    generalize ctN n es[k] = R at *
    have g0 : ¬ (n : Int) = 0 := by omega
    have g3 : ¬ (n : Int) = 3 := by omega
    go_enter Try.func125, Try.ntmps125
    go_wp2
    go_ret
    exact ⟨by rw [hR.out]; rfl, rfl⟩
end Go.Proofs.Ytgcbfiamhpfkhaa

namespace Go.Proofs.Ytgcbfiamhpfkhaa
open Go.RowKit
set_option linter.unusedVariables false

def ResTileParts (R0 : List (Int)) (R1 : Bool) (w : World) (e : Ending) (w' : World) : Prop := ∃ (A0 : Option Addr) (c0 : Nat), e = .returned (.tuple #[.slice A0 R0.length c0, .bool R1]) ∧ OW w' w.heap.size w'.heap.size (.slice A0 R0.length c0) R0 ∧ Below w.heap.size w w'
def ResTileInner (R0 : List (Int)) (R1 : Bool) (w : World) (e : Ending) (w' : World) : Prop := ∃ (A0 : Option Addr) (c0 : Nat), e = .returned (.tuple #[.slice A0 R0.length c0, .bool R1]) ∧ OW w' w.heap.size w'.heap.size (.slice A0 R0.length c0) R0 ∧ Below w.heap.size w w'
def ResTileCost (R0 : Int) (R1 : Bool) (w : World) (e : Ending) (w' : World) : Prop := e = .returned (.tuple #[.int .i64 R0, .bool R1]) ∧ Below w.heap.size w w'
def ResTilesAt (R0 : List (Int)) (R1 : Bool) (w : World) (e : Ending) (w' : World) : Prop := ∃ (A0 : Option Addr) (c0 : Nat), e = .returned (.tuple #[.slice A0 R0.length c0, .bool R1]) ∧ OW w' w.heap.size w'.heap.size (.slice A0 R0.length c0) R0 ∧ Below w.heap.size w w'
def ResCountCovers (R0 : Int) (R1 : Bool) (w : World) (e : Ending) (w' : World) : Prop := e = .returned (.tuple #[.int .i64 R0, .bool R1]) ∧ Below w.heap.size w w'
def ResPricesOf (R0 : List (Int)) (R1 : Bool) (w : World) (e : Ending) (w' : World) : Prop := ∃ (A0 : Option Addr) (c0 : Nat), e = .returned (.tuple #[.slice A0 R0.length c0, .bool R1]) ∧ OW w' w.heap.size w'.heap.size (.slice A0 R0.length c0) R0 ∧ Below w.heap.size w w'
end Go.Proofs.Ytgcbfiamhpfkhaa

/- TileParts, TileInner, TileCost: the model; the contracts as the laws take them. -/
namespace Go.Proofs.Ytgcbfiamhpfkhaa
open Go.RowKit
set_option linter.unusedVariables false

theorem foTi_len (es : List Nd) (f : Fo) (nd : Nd) : (foTi es f nd).ps.length ≤ 2 ∧ (foTi es f nd).ins.length ≤ 2 := by
  unfold foTi; split <;> simp
theorem mt_len {es : List Nd} {nd : Nd} {n : Nat} {x : Ti} (h : mt es nd n = some x) : x.ps.length ≤ 2 ∧ x.ins.length ≤ 2 := by
  match n with
  | 0 | 1 | 2 | 3 =>
    simp only [mt] at h
    split at h
    · injection h with h
      subst h
      simp
    · cases h
  | m + 4 =>
    simp only [mt] at h
    rw [Option.bind_eq_some_iff] at h
    obtain ⟨f, _, h⟩ := h
    unfold foO at h
    split at h
    · injection h with h; subst h; exact foTi_len es f nd
    · cases h

theorem partsR_len {es : List Nd} {i t : Int} : (partsR es i t).length ≤ 1048576 := by
  cases ht : tokR es i t
  · unfold tokR at ht
    unfold partsR
    rw [Option.isSome_eq_false_iff, Option.isNone_iff_eq_none] at ht
    rw [ht]; simp [noTi]
  · obtain ⟨k, n, hk, rfl, rfl, hn, hok, hl24, hT⟩ := tok_parts ht
    unfold partsR
    rw [hT]
    cases hm : mt es es[k] n with
    | none => simp [noTi]
    | some x => have := mt_len hm; simp only [Option.getD_some]; omega

theorem innerR_len {es : List Nd} {i t : Int} : (innerR es i t).length ≤ 1048576 := by
  cases ht : tokR es i t
  · unfold tokR at ht
    unfold innerR
    rw [Option.isSome_eq_false_iff, Option.isNone_iff_eq_none] at ht
    rw [ht]; simp [noTi]
  · obtain ⟨k, n, hk, rfl, rfl, hn, hok, hl24, hT⟩ := tok_parts ht
    unfold innerR
    rw [hT]
    cases hm : mt es es[k] n with
    | none => simp [noTi]
    | some x => have := mt_len hm; simp only [Option.getD_some]; omega

end Go.Proofs.Ytgcbfiamhpfkhaa

/- TilesAt: the program and the model. -/
namespace Go.Proofs.Ytgcbfiamhpfkhaa
open Go.RowKit
set_option linter.unusedVariables false
set_option maxRecDepth 100000

def numsTo (es : List Nd) (nd : Nd) (k : Nat) : List Int := ((List.range k).filterMap (mt es nd)).map Ti.num
theorem numsTo_yes {es : List Nd} {nd : Nd} {k : Nat} (hk : k < 13) (h : (mt es nd k).isSome = true) : numsTo es nd (k + 1) = numsTo es nd k ++ [(k : Int)] := by
  cases hm : mt es nd k with
  | none => rw [hm] at h; cases h
  | some x =>
    unfold numsTo
    rw [List.range_succ, List.filterMap_append, List.map_append]
    simp [hm, mt_num hm]
theorem numsTo_no {es : List Nd} {nd : Nd} {k : Nat} (h : (mt es nd k).isSome = false) : numsTo es nd (k + 1) = numsTo es nd k := by
  rw [Option.isSome_eq_false_iff, Option.isNone_iff_eq_none] at h
  unfold numsTo
  rw [List.range_succ, List.filterMap_append, List.map_append]
  simp [h]
theorem numsTo_len (es : List Nd) (nd : Nd) (k : Nat) : (numsTo es nd k).length ≤ k := by
  unfold numsTo; rw [List.length_map]
  have := List.length_filterMap_le (mt es nd) (List.range k); simpa using this
theorem numsTo_all (es : List Nd) (nd : Nd) : numsTo es nd 13 = (tilesL es nd).map Ti.num := rfl
theorem tilesL_len (es : List Nd) (nd : Nd) : (tilesL es nd).length ≤ 13 := by
  unfold tilesL; have := List.length_filterMap_le (mt es nd) (List.range 13); simpa using this
def tatR (es : List Nd) (i : Int) : List Int := if tAt es i = true then (tilesL es (nodeAt es i)).map Ti.num else []
theorem tatR_len {es : List Nd} {i : Int} : (tatR es i).length ≤ 1048576 := by
  unfold tatR; split
  · rw [List.length_map]; have := tilesL_len es (nodeAt es i); omega
  · simp
theorem tAt_parts {es : List Nd} {i : Int} (h : tAt es i = true) : ∃ k : Nat, ∃ hk : k < es.length, i = (k : Int) ∧ okFrom es 0 = true ∧ es.length ≤ 24 ∧ tatR es i = (tilesL es es[k]).map Ti.num := by
  have h1 := h
  unfold tAt treeR at h1
  simp only [Bool.and_eq_true] at h1
  obtain ⟨⟨hg, _⟩, hi⟩ := h1
  obtain ⟨hl1, hl24, hok⟩ := good_len hg
  have hi2 := (inR_iff _ _ _).1 hi
  obtain ⟨k, rfl⟩ := Int.eq_ofNat_of_zero_le hi2.1
  have hk : k < es.length := by omega
  exact ⟨k, hk, rfl, hok, hl24, by unfold tatR; rw [if_pos h, nodeAt_nat hk]⟩

set_option maxHeartbeats 4000000 in
theorem cvTiles_any (L B : Nat) (A : Option Addr) (c : Nat) (es : List Nd) (k : Nat) (hk : k < es.length) (w : World) (hes : NS w L B A es) (hB : B ≤ w.heap.size) (hok : okFrom es 0 = true) :
    Calls Try.prog 71 #[.slice A es.length c, .int .i64 (k : Int)] w (OwnIs w (numsTo es es[k] 13)) := by
  obtain ⟨i0, hi, hz0, hz1, hz2⟩ := info_parts Try.infoInt
  have hI := Lib.hid hi
  have hZ0 := Lib.hid hz0
  have hZ1 := Lib.hid hz1
  have hZ2 := Lib.hid hz2
  clear hi hz0 hz1 hz2
  have hT := Lib.hid fun (n : Nat) (hn : n < 13) (W : World) (hW : Below w.heap.size w W) => cvTile_n L B A c es k hk n hn W (hes.below hW hB) (Nat.le_trans hB hW.size) hok
  have hY := Lib.hid fun (n : Nat) (hn : n < 13) => numsTo_yes (es := es) (nd := es[k]) hn
  have hN := Lib.hid fun (n : Nat) => numsTo_no (es := es) (nd := es[k]) (k := n)
  have hLn := Lib.hid (numsTo_len es es[k])
  have h00 : Hid (numsTo es es[k] 0 = []) := rfl
  have b0 := Lib.hid (Below.refl w.heap.size w)
  generalize numsTo es es[k] = nums at *
  generalize (mt es es[k]) = mts at *
  clear hes hB hok hk
  generalize es.length = m at *
  go_enter Try.func71, Try.ntmps71
  go_wp2
  go_loopw [5, 6] (fun v q wr => ∃ n : Nat, n ≤ 13 ∧ q = .int .i64 n ∧ OW wr w.heap.size wr.heap.size v (nums n) ∧ Below w.heap.size w wr) (fun _ q _ => 13 - (intOf q).toNat)
  case atStart => exact ⟨0, Nat.zero_le _, rfl, by rw [h00.out]; exact OW.nil _ _ _, b0.out⟩
  case round =>
    obtain ⟨n, hn, rfl, how, hbel⟩ := hrel
    obtain ⟨V, cv, rfl, _⟩ := how.form
    have hO := Lib.hid how
    have hBL := Lib.hid hbel
    have hl := Lib.hid (hLn.out n)
    clear how hbel
    by_cases hlt : n < 13
    · have hn13 : (n : Int) < 13 := by omega
      have hC := Lib.hid (hT.out n hlt)
      have hYn := Lib.hid (hY.out n hlt)
      have hNn := Lib.hid (hN.out n)
      generalize mts n = o at *
      generalize hnn : nums (n + 1) = xs' at *
      have hnn2 := Lib.hid hnn
      clear hnn
      generalize nums n = xs at *
      go_wp2_with (fail)
      refine (hC.out _ hBL.out).mono ?_
      rintro e w2 ⟨PA, pc, QA, qc, rfl, _, _, hb2⟩
      have hbi := Lib.hid (hBL.out.trans (hb2.mono hBL.out.size))
      have hO2 := Lib.hid ((hO.out.below hb2 (Nat.le_refl _)).more hb2.size)
      clear hb2
      cases ho : o.isSome
      · have hS := Lib.hid (hNn.out ho)
        go_wp2
        go_roundw
        case rel => exact ⟨n + 1, by omega, by go_num, by rw [hnn2.out, hS.out]; exact hO2.out, hbi.out⟩
        case measure => simp [intOf]; omega
      · have hS := Lib.hid (hYn.out ho)
        have ho2 := Lib.hid (hO2.out.1.alloc (.cells #[.int .i64 (n : Int)] 3))
        have hb3 := Lib.hid (hbi.out.alloc hbi.out.size (.cells #[.int .i64 (n : Int)] 3))
        have hlo := Lib.hid hO2.out.lo
        have hlen : xs.length ≤ 13 := by have := hl.out; omega
        go_wp2_with (at_builtin; go_loud (refine wpList_append_own _ rfl _ _ 23 rfl w.heap.size 3 i0 (.int .i64 0) 1 8 Try.underlying23 hI.out hZ0.out hZ1.out hZ2.out rfl (by decide) _ _ _ rfl ho2.out ⟨w2.heap.size, 0, none⟩ 1 1 [.int .i64 (n : Int)] rfl rfl (new1 rfl) (one1 _) (by unfold maxLen; omega) (by omega) (by have := hbi.out.size; simp; omega) ?_); intro v' w4 hown4 hgr4 _)
        have R1 := Lib.hid (OW.push (by simpa using hown4) : OW w4 w.heap.size w4.heap.size v' (xs ++ [(n : Int)]))
        have R2 := Lib.hid (hb3.out.grown hgr4 hb3.out.size (fun k hk => (hlo.out k hk).1))
        clear hown4 hgr4
        go_wp2
        go_roundw
        case rel => exact ⟨n + 1, by omega, by go_num, by rw [hnn2.out, hS.out]; exact R1.out, R2.out⟩
        case measure => simp [intOf]; omega
    · obtain rfl : n = 13 := by omega
      go_wp2
      go_ret
      exact ⟨V, cv, rfl, hO.out, hBL.out⟩
end Go.Proofs.Ytgcbfiamhpfkhaa

/- TilesAt: the program and the model. -/
namespace Go.Proofs.Ytgcbfiamhpfkhaa
open Go.RowKit
set_option linter.unusedVariables false
set_option maxRecDepth 100000

theorem numL_snoc {ts : List Ti} {k : Nat} (h : k < ts.length) : (ts.take (k + 1)).map Ti.num = (ts.take k).map Ti.num ++ [ts[k].num] := by
  rw [List.take_succ_eq_append_getElem h, List.map_append]; rfl
end Go.Proofs.Ytgcbfiamhpfkhaa

/- Tables and inputs. No program. -/
namespace Go.Proofs.Ytgcbfiamhpfkhaa
open Go.RowKit
set_option linter.unusedVariables false

/-- A list of f's values at the first n inputs. -/
def tabTo (f : Int → Int → Int) (n : Nat) : List Int := (List.range n).map fun i => f ((i / 64 : Nat) : Int) ((i % 64 : Nat) : Int)
theorem tabTo_len (f : Int → Int → Int) (n : Nat) : (tabTo f n).length = n := by simp [tabTo]
theorem tabTo_succ (f : Int → Int → Int) (k j : Nat) (h : j < 64) : tabTo f (64 * k + (j + 1)) = tabTo f (64 * k + j) ++ [f k j] := by
  unfold tabTo
  rw [← Nat.add_assoc, List.range_succ, List.map_append]
  have h1 : (64 * k + j) / 64 = k := by omega
  have h2 : (64 * k + j) % 64 = j := by omega
  simp only [List.map_cons, List.map_nil, h1, h2]
theorem tabTo_next (f : Int → Int → Int) (k : Nat) : tabTo f (64 * k + 64) = tabTo f (64 * (k + 1) + 0) := by
  rw [Nat.mul_add]

def inStep (out : List Int) (n : Nd) : List Int := if isIn n.op = true then put out n.v else out
def inTo (es : List Nd) (k : Nat) : List Int := (es.take k).foldl inStep []
def isInp (n : Nd) (k : Int) : Bool := isIn n.op && n.v == k
def hasIn (es : List Nd) (k : Int) : Bool := es.any fun n => isInp n k
def twoOf (a b : Bool) : List Int := (if a = true then [0] else []) ++ (if b = true then [1] else [])
theorem inTo_succ {es : List Nd} {k : Nat} (h : k < es.length) : inTo es (k + 1) = inStep (inTo es k) es[k] := by
  unfold inTo; rw [List.take_succ_eq_append_getElem h, List.foldl_append]; rfl
theorem hasIn_snoc {es : List Nd} {k : Nat} (h : k < es.length) (q : Int) : hasIn (es.take (k + 1)) q = (hasIn (es.take k) q || isInp es[k] q) := by
  unfold hasIn; rw [List.take_succ_eq_append_getElem h, List.any_append]; simp
theorem inTo_eq {es : List Nd} (hok : ∀ k (h : k < es.length), isIn es[k].op = true → es[k].v = 0 ∨ es[k].v = 1) : ∀ k, k ≤ es.length → inTo es k = twoOf (hasIn (es.take k) 0) (hasIn (es.take k) 1) := by
  intro k
  induction k with
  | zero => intro _; rfl
  | succ k ih =>
    intro hk
    rw [inTo_succ (by omega), hasIn_snoc (by omega), hasIn_snoc (by omega), ih (by omega)]
    have hv := hok k (by omega)
    generalize es[k] = n at *
    generalize hasIn (es.take k) 0 = a
    generalize hasIn (es.take k) 1 = b
    unfold inStep isInp
    cases hn : isIn n.op
    · simp
    · rcases hv hn with h | h <;> rw [h] <;> cases a <;> cases b <;> decide
theorem twoOf_len (a b : Bool) : (twoOf a b).length ≤ 2 := by cases a <;> cases b <;> decide
end Go.Proofs.Ytgcbfiamhpfkhaa
