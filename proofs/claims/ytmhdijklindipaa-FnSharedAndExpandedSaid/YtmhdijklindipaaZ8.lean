/- Texts of this proof, one behind the other: RE, UB, VC, LawP, XI, XJ. -/
import Derived.Test.YtmhdijklindipaaZ9
import Derived.WalkKit
import Derived.WalkSpells
import Derived.WalkLawsBesides
import Derived.Laws.StructEq
import Derived.Lib.Hide
import Derived.Test.YtmhdijklindipaaZ10
import Derived.Test.YtmhdijklindipaaV
import Derived.Test.YtmhdijklindipaaZ11
import Derived.Test.YtmhdijklindipaaLI
import Derived.Deep.RegionLaw
import Derived.Deep.RegionHeld3
import Derived.Deep.AppendLies
/- Nodes compared by '=='. -/
namespace Go.Proofs.Ytmhdijklindipaa
open Go.RowKit
set_option linter.unusedVariables false
set_option maxRecDepth 100000
theorem nd_guard : Try.prog.eqGuardType Try.prog.depth 40 = false := by kernel_rfl
theorem equalIn_nd (op op' : ByteArray) (a b v a' b' v' : Int) (w : World) : (Op.equalIn 10000 40 (.agg #[.string op, .int .i64 a, .int .i64 b, .int .i64 v]) (.agg #[.string op', .int .i64 a', .int .i64 b', .int .i64 v'])).run Try.prog w = .ok (sameN ⟨op, a, b, v⟩ ⟨op', a', b', v'⟩) w := by
  have u3 := Try.underlying3
  have a3 := Try.isAgg3
  have z3 := Try.sizeOf3
  have u9 := Try.underlying9
  have a9 := Try.isAgg9
  have z9 := Try.sizeOf9
  have hS : Try.prog.underlying 40 = some (.struct (Try.prog.fieldsOf 40)) := by kernel_rfl
  have hp : Try.prog.stoodInHeld 40 = false := by kernel_rfl
  rw [show (10000 : Nat) = 9999 + 1 from rfl, run_equalIn_agg w 9999 40 _ _ hS hp]
  simp only [Program.fieldsOf, Try.underlying40]
  unfold sameN
  go_simp
  by_cases h0 : op.toList = op'.toList <;> by_cases h1 : a = a' <;> by_cases h2 : b = b' <;> by_cases h3 : v = v' <;> simp [h0, h1, h2, h3]
theorem sameL_no {xs ys : List Nd} {k : Nat} (hk : k < xs.length) (h : sameN (xs.getD k zeroNd) (ys.getD k zeroNd) = false) : sameL xs ys = false := by
  unfold sameL
  rw [Bool.and_eq_false_iff]; right
  rw [List.all_eq_false]
  exact ⟨k, by simpa using hk, by simpa using h⟩
theorem sameL_yes {xs ys : List Nd} (hl : xs.length = ys.length) (h : ∀ k, k < xs.length → sameN (xs.getD k zeroNd) (ys.getD k zeroNd) = true) : sameL xs ys = true := by
  unfold sameL
  rw [Bool.and_eq_true]
  refine ⟨decide_eq_true hl, ?_⟩
  rw [List.all_eq_true]
  intro k hk
  exact h k (by simpa using hk)
theorem sameL_len {xs ys : List Nd} (hl : xs.length ≠ ys.length) : sameL xs ys = false := by
  unfold sameL; rw [decide_eq_false hl]; rfl

end Go.Proofs.Ytmhdijklindipaa

/- ShareExpr: what it answers. No program. -/
namespace Go.Proofs.Ytmhdijklindipaa
open Go.RowKit
set_option linter.unusedVariables false

theorem sameN_comm (x y : Nd) : sameN x y = sameN y x := by
  unfold sameN
  rw [Bool.beq_comm (a := x.op.toList), Bool.beq_comm (a := x.a), Bool.beq_comm (a := x.b), Bool.beq_comm (a := x.v)]
def nidx (xs : List Nd) (y : Nd) : Int := firstI (fun k => sameN (xs.getD k zeroNd) y) xs.length
def po1 (xs : List Nd) (y : Nd) : List Nd × Int := if 0 ≤ nidx xs y then (xs, nidx xs y) else (xs ++ [y], (xs.length : Int))
theorem po1_yes {xs : List Nd} {y : Nd} (h : 0 ≤ nidx xs y) : po1 xs y = (xs, nidx xs y) := by unfold po1; rw [if_pos h]
theorem po1_no {xs : List Nd} {y : Nd} (h : ¬ 0 ≤ nidx xs y) : po1 xs y = (xs ++ [y], (xs.length : Int)) := by unfold po1; rw [if_neg h]
theorem po1_idx (xs : List Nd) (y : Nd) : 0 ≤ (po1 xs y).2 ∧ (po1 xs y).1.length ≤ xs.length + 1 := by
  unfold po1; split
  · rename_i h; exact ⟨h, by simp⟩
  · exact ⟨by simp, by simp⟩
/-- Each node once: the nodes so far, and where each node stands, -1 for one that has not been walked. -/
def on (es : List Nd) : Nat → Nat → List Nd × List Int → (List Nd × List Int) × Int
  | 0, _, s => (s, 0)
  | F + 1, i, s => if 0 ≤ s.2.getD i 0 then (s, s.2.getD i 0) else
    (((po1 (woG (on es F) (es.getD i zeroNd) s).1.1 (woG (on es F) (es.getD i zeroNd) s).2).1, (woG (on es F) (es.getD i zeroNd) s).1.2.set i (po1 (woG (on es F) (es.getD i zeroNd) s).1.1 (woG (on es F) (es.getD i zeroNd) s).2).2), (po1 (woG (on es F) (es.getD i zeroNd) s).1.1 (woG (on es F) (es.getD i zeroNd) s).2).2)
def cntD (ds : List Int) : Nat := ds.countP fun d => decide (0 ≤ d)
theorem cntD_set {ds : List Int} {i : Nat} {x : Int} (hi : i < ds.length) (h : ds.getD i 0 < 0) (hx : 0 ≤ x) : cntD (ds.set i x) = cntD ds + 1 := by
  unfold cntD
  have h1 : ds[i] < 0 := by rw [List.getD_eq_getElem?_getD, List.getElem?_eq_getElem hi] at h; exact h
  rw [List.countP_set hi, decide_eq_false (by omega : ¬ 0 ≤ ds[i]), decide_eq_true hx]; simp
theorem cntD_lt {ds : List Int} {i : Nat} (hi : i < ds.length) (h : ds.getD i 0 < 0) : cntD ds < ds.length := by
  have h1 := cntD_set (x := 0) hi h (Int.le_refl _)
  have h2 : cntD (ds.set i 0) ≤ (ds.set i 0).length := List.countP_le_length
  rw [List.length_set] at h2; omega
def InvO (n : Nat) (s : List Nd × List Int) : Prop := s.2.length = n ∧ s.1.length ≤ cntD s.2
theorem getD_set_int {ds : List Int} {i j : Nat} (x : Int) (h : i ≠ j) : (ds.set i x).getD j 0 = ds.getD j 0 := by
  rw [List.getD_eq_getElem?_getD, List.getD_eq_getElem?_getD, List.getElem?_set_ne h]
theorem on_inv {es : List Nd} (hok : okFrom es 0 = true) : ∀ (F i : Nat) (s : List Nd × List Int), i < F → i < es.length → InvO es.length s →
    InvO es.length (on es F i s).1 ∧ (∀ j, i < j → (on es F i s).1.2.getD j 0 = s.2.getD j 0) ∧ 0 ≤ (on es F i s).2 ∧ (s.2.getD i 0 < 0 → ∀ G, F = G + 1 → InvO es.length (woG (on es G) (es.getD i zeroNd) s).1 ∧ (woG (on es G) (es.getD i zeroNd) s).1.2.getD i 0 < 0) := by
  intro F
  induction F with
  | zero => intro i s h; omega
  | succ F ih =>
    intro i s hi hie hI
    by_cases h0 : 0 ≤ s.2.getD i 0
    · have e : on es (F + 1) i s = (s, s.2.getD i 0) := by rw [on, if_pos h0]
      rw [e]
      exact ⟨hI, fun j hj => rfl, h0, fun h => absurd h0 (by omega)⟩
    · have hnd := ok_get hok hie
      have hg := getD_nd hie
      -- what the operands leave
      have key : InvO es.length (woG (on es F) (es.getD i zeroNd) s).1 ∧ ∀ j, i ≤ j → (woG (on es F) (es.getD i zeroNd) s).1.2.getD j 0 = s.2.getD j 0 := by
        rw [hg]
        generalize es[i] = n at *
        unfold woG
        rcases ar_cases_nd hnd with ⟨h1, -, -, -, -⟩ | ⟨h1, -, -, ha, ha', -⟩ | ⟨h1, -, -, ha, ha', hb, hb'⟩
        · rw [if_neg (by omega), if_neg (by omega)]; exact ⟨hI, fun j _ => rfl⟩
        · rw [if_pos h1]
          obtain ⟨a1, a2, -, -⟩ := ih n.a.toNat s (by omega) (by omega) hI
          exact ⟨a1, fun j hj => a2 j (by omega)⟩
        · rw [if_neg (by omega), if_pos h1]
          obtain ⟨a1, a2, -, -⟩ := ih n.a.toNat s (by omega) (by omega) hI
          obtain ⟨b1, b2, -, -⟩ := ih n.b.toNat _ (by omega) (by omega) a1
          exact ⟨b1, fun j hj => (b2 j (by omega)).trans (a2 j (by omega))⟩
      obtain ⟨k1, k2⟩ := key
      have hneg : (woG (on es F) (es.getD i zeroNd) s).1.2.getD i 0 < 0 := by rw [k2 i (Nat.le_refl _)]; omega
      have e : on es (F + 1) i s = (((po1 (woG (on es F) (es.getD i zeroNd) s).1.1 (woG (on es F) (es.getD i zeroNd) s).2).1, (woG (on es F) (es.getD i zeroNd) s).1.2.set i (po1 (woG (on es F) (es.getD i zeroNd) s).1.1 (woG (on es F) (es.getD i zeroNd) s).2).2), (po1 (woG (on es F) (es.getD i zeroNd) s).1.1 (woG (on es F) (es.getD i zeroNd) s).2).2) := by rw [on, if_neg h0]
      rw [e]
      have hp := po1_idx (woG (on es F) (es.getD i zeroNd) s).1.1 (woG (on es F) (es.getD i zeroNd) s).2
      refine ⟨⟨?_, ?_⟩, fun j hj => ?_, hp.1, fun _ G hG => ?_⟩
      · simp only [List.length_set]; exact k1.1
      · have h9 := cntD_set (x := (po1 (woG (on es F) (es.getD i zeroNd) s).1.1 (woG (on es F) (es.getD i zeroNd) s).2).2) (by rw [k1.1]; exact hie) hneg hp.1
        have h8 := k1.2
        have h7 := hp.2
        show (po1 _ _).1.length ≤ cntD (List.set _ _ _)
        omega
      · show (List.set _ _ _).getD j 0 = _
        rw [getD_set_int _ (by omega)]; exact k2 j (by omega)
      · have : G = F := by omega
        subst this
        exact ⟨k1, hneg⟩
def plOf (ds : List Int) : List Int := ds.map fun d => if d < 0 then 0 else d
def seenOf (ds : List Int) : List Bool := ds.map fun d => decide (0 ≤ d)
theorem plOf_set (ds : List Int) (i : Nat) {x : Int} (hx : 0 ≤ x) : (plOf ds).set i x = plOf (ds.set i x) := by
  unfold plOf; rw [List.map_set, if_neg (by omega)]
theorem seenOf_set (ds : List Int) (i : Nat) {x : Int} (hx : 0 ≤ x) : (seenOf ds).set i true = seenOf (ds.set i x) := by
  unfold seenOf; rw [List.map_set, decide_eq_true hx]
theorem plOf_get {ds : List Int} {i : Nat} (h : 0 ≤ ds.getD i 0) (hi : i < ds.length) : (plOf ds).getD i 0 = ds.getD i 0 := by
  have e : ds.getD i 0 = ds[i] := by rw [List.getD_eq_getElem?_getD, List.getElem?_eq_getElem hi]; rfl
  rw [e] at h ⊢
  unfold plOf; rw [List.getD_eq_getElem?_getD, List.getElem?_map, List.getElem?_eq_getElem hi]
  show (if ds[i] < 0 then 0 else ds[i]) = _
  rw [if_neg (by omega)]
theorem seenOf_get {ds : List Int} {i : Nat} (hi : i < ds.length) : (seenOf ds).getD i false = decide (0 ≤ ds.getD i 0) := by
  have e : ds.getD i 0 = ds[i] := by rw [List.getD_eq_getElem?_getD, List.getElem?_eq_getElem hi]; rfl
  rw [e]
  unfold seenOf; rw [List.getD_eq_getElem?_getD, List.getElem?_map, List.getElem?_eq_getElem hi]; rfl
def shareL (es : List Nd) : List Nd := (on es es.length (es.length - 1) ([], List.replicate es.length (-1))).1.1
def shareR (es : List Nd) : List Nd := if good es = true then shareL es else []
theorem inv_start (n : Nat) : InvO n ([], List.replicate n (-1)) := ⟨by simp, by simp⟩
theorem shareR_len (es : List Nd) : (shareR es).length ≤ 1048576 := by
  unfold shareR; split
  · rename_i h
    obtain ⟨h1, h24, hok⟩ := good_len h
    have h9 := (on_inv hok es.length (es.length - 1) ([], List.replicate es.length (-1)) (by omega) (by omega) (inv_start _)).1
    have h8 : cntD _ ≤ _ := List.countP_le_length (l := (on es es.length (es.length - 1) ([], List.replicate es.length (-1))).1.2)
    have := h9.1; have := h9.2
    unfold shareL; omega
  · simp
end Go.Proofs.Ytmhdijklindipaa

/- An own slice's length is within its capacity. -/
namespace Go.Proofs.Ytmhdijklindipaa
open Go.RowKit
theorem OK.cap {α : Type} {enc : α → List Value} {k : Nat} {t : TypeId} {w : World} {lo hi n c : Nat} {A : Option Addr} {xs : List α} (h : OK enc k t w lo hi (.slice A n c) xs) : n ≤ c := by
  rcases h.1.2 with ⟨hv, _⟩ | ⟨g, cap, cur, hv, _, _, h1, _⟩
  · injection hv with _ h2 h3; omega
  · injection hv with _ h2 h3; omega
end Go.Proofs.Ytmhdijklindipaa

namespace Go.Proofs.Ytmhdijklindipaa
open Go.RowKit
set_option linter.unusedVariables false

def ResExpandExpr (R0 : List (Nd)) (R1 : Bool) (w : World) (e : Ending) (w' : World) : Prop := ∃ (A0 : Option Addr) (c0 : Nat), e = .returned (.tuple #[.slice A0 R0.length c0, .bool R1]) ∧ OK Nd.enc 4 40 w' w.heap.size w'.heap.size (.slice A0 R0.length c0) R0 ∧ Below w.heap.size w w'
def ResShareExpr (R0 : List (Nd)) (R1 : Bool) (w : World) (e : Ending) (w' : World) : Prop := ∃ (A0 : Option Addr) (c0 : Nat), e = .returned (.tuple #[.slice A0 R0.length c0, .bool R1]) ∧ OK Nd.enc 4 40 w' w.heap.size w'.heap.size (.slice A0 R0.length c0) R0 ∧ Below w.heap.size w w'
def ResPutInput (R0 : List (Nd)) (R1 : Bool) (w : World) (e : Ending) (w' : World) : Prop := ∃ (A0 : Option Addr) (c0 : Nat), e = .returned (.tuple #[.slice A0 R0.length c0, .bool R1]) ∧ OK Nd.enc 4 40 w' w.heap.size w'.heap.size (.slice A0 R0.length c0) R0 ∧ Below w.heap.size w w'
end Go.Proofs.Ytmhdijklindipaa

/- ExpandExpr: the model. -/
namespace Go.Proofs.Ytmhdijklindipaa
open Go.RowKit
set_option linter.unusedVariables false
set_option maxRecDepth 100000

set_option maxHeartbeats 4000000 in
theorem sput_new (t : TypeId) (rest : List Value) (q L : Nat) (xs : List Nd) (v : Value) (y : Nd) (w : World) (hx : xs.length < 100000) (hL : L ≤ w.heap.size) (hs : GS t rest q L xs false v w) :
    Calls Try.prog 254 #[.pointer (some ⟨q, 0, none⟩), .agg #[.string y.op, .int .i64 y.a, .int .i64 y.b, .int .i64 y.v]] w fun e w' => e = .returned (.int .i64 xs.length) ∧ GP t rest q L v w (xs ++ [y], false) w' := by
  obtain ⟨i0, hi0, hi1, hi2, hi3⟩ := info_parts Try.infoNode
  have hJ0 := Lib.hid hi0
  have hJ1 := Lib.hid hi1
  have hJ2 := Lib.hid hi2
  have hJ3 := Lib.hid hi3
  clear hi0 hi1 hi2 hi3
  obtain ⟨AV, cv, rfl⟩ := hs.form
  have hq0 : q < w.heap.size := hs.lt
  have hal := fun o => (Below.refl w.heap.size w).alloc (Nat.le_refl _) o
  have g0 := fun o => ((hal o).cell (p := ⟨q, 0, none⟩) hq0).trans hs.c0
  have g1 := fun o => ((hal o).cell (p := ⟨q, 1, none⟩) hq0).trans hs.c1
  have x24 : (xs.length : Int) < 100000 := by omega
  have hf := hs.fz 0
  have HS := Lib.hid hs
  clear hs
  go_enter Try.func254, Try.ntmps254
  go_wp2_with (fail)
  obtain ⟨w1, hw1⟩ : ∃ w1, w1 = w.alloc (.cells #[.string y.op, .int .i64 y.a, .int .i64 y.b, .int .i64 y.v] 40) := ⟨_, rfl⟩
  have X1 : XN w1 w.heap.size y := by rw [hw1]; exact xn_new _ y
  have B1 : Hid (Below w.heap.size w w1) := by unfold Hid; rw [hw1]; exact hal _
  have k0 : w1.cell? ⟨q, 0, none⟩ = some (.slice AV xs.length cv) := by rw [hw1]; exact g0 _
  have S1 : Hid (GS t rest q L xs false (.slice AV xs.length cv) w1) := HS.out.next B1.out
  have Z1 : w1.heap.size = w.heap.size + 1 := by rw [hw1]; simp
  obtain ⟨m0, m1, m2, m3⟩ := X1.cells
  have O2 := fun o => Lib.hid (show ((w1.alloc o).drew).ownsRow L 40 4 (.slice AV xs.length cv) xs.length (xs.flatMap Nd.enc) from (S1.out.next (((Below.refl w1.heap.size w1).alloc (Nat.le_refl _) o).drew)).2.1)
  have HF1 : Hid (w1.frozen? ⟨q, 0, none⟩ = false) := S1.out.fz 0
  have hq1 : Hid (q < w1.heap.size) := S1.out.lt
  rw [← hw1]
  have HW1 := Lib.hid hw1
  have hL1 : L ≤ w1.heap.size := by omega
  clear hw1 hal g0 g1 X1
  go_region_law (first | (refine step_append_lies _ rfl _ _ 24 rfl L 40 i0 _ 4 40 Try.underlying24 hJ0.out hJ1.out hJ2.out hJ3.out rfl (by decide) _ _ _ (by rfl) (O2 _).out ⟨w.heap.size + 1, 0, none⟩ 1 1 (Nd.enc y) (by rfl) rfl (four_new y Z1) (four_one _) (by omega) (by unfold maxLen; omega) (by omega) (by simp; omega) (w1.heap.size + 1) (by simp) ?_; intro gg cap w2 hown1 hgr1 hat1 _; obtain ⟨j0, j1, j2, j3, j4⟩ := put_facts2 hq1.out HS.out.2.2 k0 HF1.out hgr1))
  all_goals
    have h1' := Lib.hid hown1
    have J3 := Lib.hid j3
    have J4 := Lib.hid j4
    have HA := Lib.hid hat1
    clear hown1 hgr1 j4 hat1 j3
    go_wp2
    go_ret
    have hgq : gg ≠ q := by
      intro e; subst e
      rcases HA.out with e | e
      · exact HS.out.2.2 e
      · have := hq1.out; omega
    refine ⟨rfl, .slice (some ⟨gg, 0, none⟩) (xs.length + 1) cap, ⟨?_, ?_, ?_⟩, ((Fr.ofBelow B1.out).trans J4.out (fun j hj => .inl hj)).set 0 _, ?_⟩
    · have h7 := J3.out.trans S1.out.1
      simp [World.setCell, Array.getElem?_modify, h7]
    · have h8 := h1'.out
      rw [nflat_snoc, List.length_append]
      refine ⟨h8.1, ?_⟩
      rcases h8.2 with hn | ⟨g, cp, cur, e, hg, hh, hrest⟩
      · exact .inl hn
      · refine .inr ⟨g, cp, cur, e, hg, ?_, hrest⟩
        have e' := e
        simp only [Value.slice.injEq, Option.some.injEq, Addr.mk.injEq] at e'
        exact (Below.heap_setCell w2 ⟨q, 0, none⟩ _ g (by rw [← e'.1.1]; exact hgq)).trans hh
    · intro e; exact hgq (by simpa [Value.ownBlock] using e)
    · intro j hj
      have hj' : gg = j := by simpa [Value.ownBlock] using hj
      subst hj'
      rcases HA.out with e | e
      · exact .inl e
      · exact .inr (by omega)
end Go.Proofs.Ytmhdijklindipaa

/- ExpandExpr: the model's walk. -/
namespace Go.Proofs.Ytmhdijklindipaa
open Go.RowKit
set_option linter.unusedVariables false
set_option maxRecDepth 100000

theorem GS.drew {t : TypeId} {rest : List Value} {q L : Nat} {xs : List Nd} {fl : Bool} {v : Value} {w : World} (h : GS t rest q L xs fl v w) : GS t rest q L xs fl v w.drew := h
/-- The state and a cell of one's own, behind a call that may change the state. -/
theorem gp_step {q g : Nat} {v v3 : Value} {W w3 : World} {n : Nd} (hx : XN W g n) (hgq : g ≠ q) (hvg : v.ownBlock ≠ some g) (f3 : Fr q v.ownBlock W w3) (o3 : ∀ j, v3.ownBlock = some j → v.ownBlock = some j ∨ W.heap.size ≤ j) : XN w3 g n ∧ v3.ownBlock ≠ some g := by
  refine ⟨xn_fr hx f3 hgq hvg, fun e => ?_⟩
  rcases o3 _ e with e' | e'
  · exact hvg e'
  · have := hx.lt; omega

set_option maxHeartbeats 2000000 in
theorem sWalk_any (L0 B q L C : Nat) (A : Option Addr) (c : Nat) (es : List Nd) (w0 : World) (hl : es.length ≤ 24) (hok : okFrom es 0 = true) (hes : NS w0 L0 B A es) (hBC : B ≤ C) (hC : C ≤ w0.heap.size) (hCq : C ≤ q) (hCL : C ≤ L) (hL : L ≤ w0.heap.size) :
    ∀ (F i : Nat) (xs : List Nd) (v : Value) (W : World), F ≤ 24 → i < F → i < es.length → xs.length ≤ 50 → Below C w0 W → GS 174 [] q L xs false v W →
    Calls Try.prog 208 #[.pointer (some ⟨q, 0, none⟩), .slice A es.length c, .int .i64 i] W fun e w' => e = .returned (.int .i64 (mw es F i xs).2) ∧ GP 174 [] q L v W ((mw es F i xs).1, false) w' := by
  intro F
  induction F with
  | zero => intro i s v W _ hi; omega
  | succ F ih =>
    intro i xs v W hF hi hie hx hb hs
    have hnd := ok_get hok hie
    obtain ⟨b, o, hA, ⟨_, hbB⟩, hcc⟩ := (hes.below hb hBC) (by omega)
    obtain ⟨c1, c2, c3, c4⟩ := hcc i hie
    subst hA
    have k0 : (0 : Int) ≤ (i : Int) := by omega
    have k1 : (i : Int) < (es.length : Int) := by omega
    have hbs := hb.size
    obtain ⟨AV, cv, rfl⟩ := hs.form
    have hG := Lib.hid hs
    have hq := hs.lt
    have c0 := fun u => ((Below.refl W.heap.size W).alloc (Nat.le_refl _) u).cell (p := ⟨q, 0, none⟩) hs.lt |>.trans hs.c0
    have hbW : b < W.heap.size := by omega
    have hbC : b < C := by omega
    have hE : mw es (F + 1) i xs = if 24 < xs.length then (xs, 0) else ((woM (mw es F) es[i] xs).1 ++ [(woM (mw es F) es[i] xs).2], ((woM (mw es F) es[i] xs).1.length : Int)) := by rw [mw, getD_nd hie]
    have hml := fun j (h : xs.length ≤ 24) => mw_len (es := es) F j xs h
    have hml2 := fun j (ys : List Nd) (h : ys.length ≤ 24) => mw_len (es := es) F j ys h
    rw [hE]
    clear hE hcc hs
    generalize es[i] = nd at *
    obtain ⟨op, a, bb, x⟩ := nd
    dsimp only at c1 c2 c3 c4 ⊢
    have c1' := fun u => (((Below.refl W.heap.size W).alloc (Nat.le_refl _) u).cell (p := ⟨b, o + i * 4, none⟩) hbW).trans c1
    have c2' := fun u => (((Below.refl W.heap.size W).alloc (Nat.le_refl _) u).cell (p := ⟨b, o + i * 4 + 1, none⟩) hbW).trans c2
    have c3' := fun u => (((Below.refl W.heap.size W).alloc (Nat.le_refl _) u).cell (p := ⟨b, o + i * 4 + 2, none⟩) hbW).trans c3
    have c4' := fun u => (((Below.refl W.heap.size W).alloc (Nat.le_refl _) u).cell (p := ⟨b, o + i * 4 + 3, none⟩) hbW).trans c4
    have hcell := Lib.hid fun (W' : World) (h : Below C w0 W') => (show W'.cell? ⟨b, o + i * 4, none⟩ = some (.string op) ∧ W'.cell? ⟨b, o + i * 4 + 1, none⟩ = some (.int .i64 a) ∧ W'.cell? ⟨b, o + i * 4 + 2, none⟩ = some (.int .i64 bb) ∧ W'.cell? ⟨b, o + i * 4 + 3, none⟩ = some (.int .i64 x) from
      ⟨(h.cell (p := ⟨b, _, none⟩) hbC).trans ((hb.cell (p := ⟨b, _, none⟩) hbC).symm.trans c1), (h.cell (p := ⟨b, _, none⟩) hbC).trans ((hb.cell (p := ⟨b, _, none⟩) hbC).symm.trans c2), (h.cell (p := ⟨b, _, none⟩) hbC).trans ((hb.cell (p := ⟨b, _, none⟩) hbC).symm.trans c3), (h.cell (p := ⟨b, _, none⟩) hbC).trans ((hb.cell (p := ⟨b, _, none⟩) hbC).symm.trans c4)⟩)
    obtain ⟨W1, hW1⟩ : ∃ W1, W1 = (W.alloc (.cells #[.string op, .int .i64 0, .int .i64 0, .int .i64 x] 40)).drew := ⟨_, rfl⟩
    have b1 : Hid (Below W.heap.size W W1) := by unfold Hid; rw [hW1]; exact ((Below.refl _ _).alloc (Nat.le_refl _) _).drew
    have x1 : Hid (XN W1 W.heap.size ⟨op, 0, 0, x⟩) := by unfold Hid; rw [hW1]; exact xn_new W ⟨op, 0, 0, x⟩
    have e1 := Lib.hid hW1
    have g1 := Lib.hid (hG.out.next b1.out)
    have B1 := Lib.hid (hb.trans (b1.out.mono (by omega)))
    clear hW1
    by_cases hbig : 24 < xs.length
    · rw [if_pos hbig]
      have x24 : (24 : Int) < (xs.length : Int) := by omega
      clear ih hes
      go_enter Try.func208, Try.ntmps208
      go_wp2_with (fail)
      go_region
      go_wp2
      go_ret
      rw [← e1.out]
      exact ⟨rfl, _, g1.out, Fr.ofBelow b1.out, fun j hj => .inl hj⟩
    rw [if_neg hbig]
    have x24 : (xs.length : Int) ≤ 24 := by omega
    have hgq : W.heap.size ≠ q := by omega
    have hvg : (Value.slice AV xs.length cv).ownBlock ≠ some W.heap.size := fun e => by have := (hG.out.own _ e).2; omega
    have HP := Lib.hid fun W' => exParts_any op a bb x W'
    have hPut := Lib.hid fun (ys : List Nd) (v' : Value) (y : Nd) (W' : World) (hy : ys.length < 100000) (hz : w0.heap.size ≤ W'.heap.size) (h' : GS 174 [] q L ys false v' W') => sput_new 174 [] q L ys v' y W' hy (by omega) h'
    rcases ar_cases_nd hnd with ⟨h1, h2, h3, h4, h5⟩ | ⟨h1, h2, h3, h4, h5, h6⟩ | ⟨h1, h2, h3, h4, h5, h6, h7⟩
    · dsimp only at h1 h2 h3 h4 h5
      subst h4; subst h5
      have hmv : woM (mw es F) ⟨op, 0, 0, x⟩ xs = (xs, ⟨op, 0, 0, x⟩) := by unfold woM; simp [h1]
      have hp : parts ⟨op, 0, 0, x⟩ = [] := by simp [parts, h2, h3]
      rw [hmv]; rw [hp] at HP
      dsimp only
      clear ih hes hmv hp h1 h2 h3 hnd hml hml2
      go_enter Try.func208, Try.ntmps208
      go_wp2_with (fail)
      go_region
      go_wp2_with (fail)
      rw [← e1.out]
      (with_reducible refine (HP.out _).mono ?_)
      rintro e w2 ⟨A2, cc2, rfl, _, hb2⟩
      have B2 := Lib.hid (B1.out.trans (hb2.mono (by have := B1.out.size; omega)))
      have x2 := Lib.hid (x1.out.next hb2)
      have g2 := Lib.hid (g1.out.next hb2)
      have bb2 := Lib.hid (b1.out.trans (hb2.mono b1.out.size))
      clear hb2 c1' c2' c3' c4' c0 c1 c2 c3 c4
      obtain ⟨m0, m1, m2, m3⟩ := hcell.out w2 B2.out
      go_wp2_with (fail)
      (with_reducible refine (HP.out _).mono ?_)
      rintro e w3 ⟨A3, cc3, rfl, _, hb3⟩
      have x3 := Lib.hid (x2.out.next hb3)
      have g3 := Lib.hid (g2.out.next hb3)
      have bb3 := Lib.hid (bb2.out.trans (hb3.mono bb2.out.size))
      have z3 : w0.heap.size ≤ w3.heap.size := by have := bb3.out.size; omega
      clear hb3 m0 m1 m2 m3
      obtain ⟨m0, m1, m2, m3⟩ := x3.out.cells
      go_wp2_with (fail)
      refine (hPut.out xs _ ⟨op, 0, 0, x⟩ w3 (by omega) z3 g3.out).mono ?_
      rintro e w4 ⟨rfl, h4⟩
      have H4 := Lib.hid (GP.trans (Fr.ofBelow bb3.out) (fun j hj => .inl hj) h4)
      clear h4
      go_wp2
      go_ret
      exact ⟨rfl, H4.out⟩
    · dsimp only at h1 h2 h3 h4 h5 h6
      obtain ⟨pa, rfl⟩ := Int.eq_ofNat_of_zero_le h4
      subst h6
      have hmv : woM (mw es F) ⟨op, (pa : Int), 0, x⟩ xs = ((mw es F pa xs).1, ⟨op, (mw es F pa xs).2, 0, x⟩) := by unfold woM; simp [h1]
      have hp : parts ⟨op, (pa : Int), 0, x⟩ = [(pa : Int)] := by simp [parts, h2]
      rw [hmv]; rw [hp] at HP
      dsimp only
      have HA := Lib.hid fun (W' : World) (h' : Below C w0 W') (g' : GS 174 [] q L xs false (.slice AV xs.length cv) W') => ih pa xs _ W' (by omega) (by omega) (by omega) (by omega) h' g'
      have hla := (hml pa (by omega)).1
      clear ih hes hmv hp h1 h2 h3 hnd hml hml2
      generalize mw es F pa xs = ra at *
      obtain ⟨ya, va⟩ := ra
      dsimp only at HA hla ⊢
      go_enter Try.func208, Try.ntmps208
      go_wp2_with (fail)
      go_region
      go_wp2_with (fail)
      rw [← e1.out]
      (with_reducible refine (HP.out _).mono ?_)
      rintro e w2 ⟨A2, cc2, rfl, _, hb2⟩
      have B2 := Lib.hid (B1.out.trans (hb2.mono (by have := B1.out.size; omega)))
      have x2 := Lib.hid (x1.out.next hb2)
      have g2 := Lib.hid (g1.out.next hb2)
      have bb2 := Lib.hid (b1.out.trans (hb2.mono b1.out.size))
      clear hb2 c1' c2' c3' c4' c0 c1 c2 c3 c4
      obtain ⟨m0, m1, m2, m3⟩ := hcell.out w2 B2.out
      go_wp2_with (fail)
      refine (HA.out w2 B2.out g2.out).mono ?_
      rintro e w3 ⟨rfl, v3, g3, f3, o3⟩
      obtain ⟨x3, hv3⟩ := gp_step x2.out hgq hvg f3 o3
      have f1' := x3.fz 1
      have x4 := Lib.hid (x3.setA va)
      have g4 := Lib.hid (g3.other (p := ⟨W.heap.size, 1, none⟩) hgq hv3 (.int .i64 va))
      have F3 := Lib.hid ((Fr.ofBelow (q := q) (r := (Value.slice AV xs.length cv).ownBlock) bb2.out).trans f3 (fun j hj => .inl hj))
      have F4 := Lib.hid (F3.out.far (p := ⟨W.heap.size, 1, none⟩) (Nat.le_refl _) (.int .i64 va))
      have O3 : Hid (∀ j, v3.ownBlock = some j → (Value.slice AV xs.length cv).ownBlock = some j ∨ W.heap.size ≤ j) := fun j hj => by
        rcases o3 j hj with e | e
        · exact .inl e
        · exact .inr (Nat.le_trans bb2.out.size e)
      have B4 : Hid (Below C w0 (w3.setCell ⟨W.heap.size, 1, none⟩ (.int .i64 va))) := by
        unfold Hid
        exact hb.trans (F4.out.below (B := C) (by omega) hCq (fun j hj => Nat.le_trans hCL (hG.out.own j hj).1))
      obtain ⟨W4, hW4⟩ : ∃ W4, W4 = w3.setCell ⟨W.heap.size, 1, none⟩ (.int .i64 va) := ⟨_, rfl⟩
      have p1 := x3.cells.2.1
      have q1 := hcell.out _ B4.out
      rw [← hW4] at x4 g4 F4 B4
      have e4 := Lib.hid hW4
      clear m0 m1 m2 m3 x3 g3 f3 o3 hW4
      obtain ⟨m0, m1, m2, m3⟩ := q1
      go_wp2_with (fail)
      rw [← e4.out]
      (with_reducible refine (HP.out _).mono ?_)
      rintro e w5 ⟨A5, cc5, rfl, _, hb5⟩
      have x5 := Lib.hid (x4.out.next hb5)
      have g5 := Lib.hid (g4.out.next hb5)
      have F5 := Lib.hid (F4.out.trans (r' := none) (Fr.ofBelow hb5) (fun j hj => by cases hj))
      have z5 : w0.heap.size ≤ w5.heap.size := by have := F5.out.size; omega
      clear hb5 m0 m1 m2 m3 p1 f1'
      obtain ⟨m0, m1, m2, m3⟩ := x5.out.cells
      go_wp2_with (fail)
      refine (hPut.out ya _ ⟨op, va, 0, x⟩ w5 (by omega) z5 g5.out).mono ?_
      rintro e w6 ⟨rfl, h6⟩
      have H6 := Lib.hid (GP.trans F5.out O3.out h6)
      clear h6
      go_wp2
      go_ret
      exact ⟨rfl, H6.out⟩
    · dsimp only at h1 h2 h3 h4 h5 h6 h7
      obtain ⟨pa, rfl⟩ := Int.eq_ofNat_of_zero_le h4
      obtain ⟨pb, rfl⟩ := Int.eq_ofNat_of_zero_le h6
      have hmv : woM (mw es F) ⟨op, (pa : Int), (pb : Int), x⟩ xs = ((mw es F pb (mw es F pa xs).1).1, ⟨op, (mw es F pa xs).2, (mw es F pb (mw es F pa xs).1).2, x⟩) := by unfold woM; simp [h1]
      have hp : parts ⟨op, (pa : Int), (pb : Int), x⟩ = [(pa : Int), (pb : Int)] := by simp [parts, h2, h3]
      rw [hmv]; rw [hp] at HP
      dsimp only
      have HA := Lib.hid fun (W' : World) (h' : Below C w0 W') (g' : GS 174 [] q L xs false (.slice AV xs.length cv) W') => ih pa xs _ W' (by omega) (by omega) (by omega) (by omega) h' g'
      have hla := (hml pa (by omega)).1
      have HB := Lib.hid fun (ys : List Nd) (v' : Value) (W' : World) (hy : ys.length ≤ 50) (h' : Below C w0 W') (g' : GS 174 [] q L ys false v' W') => ih pb ys v' W' (by omega) (by omega) (by omega) hy h' g'
      have hlb : (mw es F pb (mw es F pa xs).1).1.length ≤ 50 := by
        by_cases h9 : (mw es F pa xs).1.length ≤ 24
        · have := (hml2 pb _ h9).1; omega
        · rw [mw_big es F pb _ (by omega)]; dsimp only; omega
      clear ih hes hmv hp h1 h2 h3 hnd hml hml2
      generalize mw es F pa xs = ra at *
      obtain ⟨ya, va⟩ := ra
      dsimp only at HA hla hlb ⊢
      have HB1 := Lib.hid fun (v' : Value) (W' : World) => HB.out ya v' W' (by omega)
      clear HB
      generalize mw es F pb ya = rb at *
      obtain ⟨yb, vb⟩ := rb
      dsimp only at HB1 hlb ⊢
      go_enter Try.func208, Try.ntmps208
      go_wp2_with (fail)
      go_region
      go_wp2_with (fail)
      rw [← e1.out]
      (with_reducible refine (HP.out _).mono ?_)
      rintro e w2 ⟨A2, cc2, rfl, _, hb2⟩
      have B2 := Lib.hid (B1.out.trans (hb2.mono (by have := B1.out.size; omega)))
      have x2 := Lib.hid (x1.out.next hb2)
      have g2 := Lib.hid (g1.out.next hb2)
      have bb2 := Lib.hid (b1.out.trans (hb2.mono b1.out.size))
      clear hb2 c1' c2' c3' c4' c0 c1 c2 c3 c4
      obtain ⟨m0, m1, m2, m3⟩ := hcell.out w2 B2.out
      go_wp2_with (fail)
      refine (HA.out w2 B2.out g2.out).mono ?_
      rintro e w3 ⟨rfl, v3, g3, f3, o3⟩
      obtain ⟨x3, hv3⟩ := gp_step x2.out hgq hvg f3 o3
      have f1' := x3.fz 1
      have x4 := Lib.hid (x3.setA va)
      have g4 := Lib.hid (g3.other (p := ⟨W.heap.size, 1, none⟩) hgq hv3 (.int .i64 va))
      have F3 := Lib.hid ((Fr.ofBelow (q := q) (r := (Value.slice AV xs.length cv).ownBlock) bb2.out).trans f3 (fun j hj => .inl hj))
      have F4 := Lib.hid (F3.out.far (p := ⟨W.heap.size, 1, none⟩) (Nat.le_refl _) (.int .i64 va))
      have O3 : Hid (∀ j, v3.ownBlock = some j → (Value.slice AV xs.length cv).ownBlock = some j ∨ W.heap.size ≤ j) := fun j hj => by
        rcases o3 j hj with e | e
        · exact .inl e
        · exact .inr (Nat.le_trans bb2.out.size e)
      have B4 : Hid (Below C w0 (w3.setCell ⟨W.heap.size, 1, none⟩ (.int .i64 va))) := by
        unfold Hid
        exact hb.trans (F4.out.below (B := C) (by omega) hCq (fun j hj => Nat.le_trans hCL (hG.out.own j hj).1))
      obtain ⟨W4, hW4⟩ : ∃ W4, W4 = w3.setCell ⟨W.heap.size, 1, none⟩ (.int .i64 va) := ⟨_, rfl⟩
      have p1 := x3.cells.2.1
      have q1 := hcell.out _ B4.out
      rw [← hW4] at x4 g4 F4 B4
      have e4 := Lib.hid hW4
      clear m0 m1 m2 m3 x3 g3 f3 o3 hW4
      obtain ⟨m0, m1, m2, m3⟩ := q1
      go_wp2_with (fail)
      rw [← e4.out]
      (with_reducible refine (HP.out _).mono ?_)
      rintro e w5 ⟨A5, cc5, rfl, _, hb5⟩
      have x5 := Lib.hid (x4.out.next hb5)
      have g5 := Lib.hid (g4.out.next hb5)
      have F5 := Lib.hid (F4.out.trans (r' := none) (Fr.ofBelow hb5) (fun j hj => by cases hj))
      have B5 := Lib.hid (B4.out.trans (hb5.mono (by have := B4.out.size; omega)))
      clear hb5 m0 m1 m2 m3 p1 f1'
      obtain ⟨m0, m1, m2, m3⟩ := hcell.out w5 B5.out
      go_wp2_with (fail)
      refine (HB1.out v3 w5 B5.out g5.out).mono ?_
      rintro e w6 ⟨rfl, v6, g6, f6, o6⟩
      obtain ⟨x6, hv6⟩ := gp_step x5.out hgq hv3 f6 o6
      have f2' := x6.fz 2
      have x7 := Lib.hid (x6.setB vb)
      have g7 := Lib.hid (g6.other (p := ⟨W.heap.size, 2, none⟩) hgq hv6 (.int .i64 vb))
      have F7 := Lib.hid ((F5.out.trans f6 O3.out).far (p := ⟨W.heap.size, 2, none⟩) (Nat.le_refl _) (.int .i64 vb))
      have O6 : Hid (∀ j, v6.ownBlock = some j → (Value.slice AV xs.length cv).ownBlock = some j ∨ W.heap.size ≤ j) := fun j hj => by
        rcases o6 j hj with e | e
        · exact O3.out j e
        · exact .inr (Nat.le_trans F5.out.size e)
      have z7 : w0.heap.size ≤ (w6.setCell ⟨W.heap.size, 2, none⟩ (.int .i64 vb)).heap.size := by have := F7.out.size; omega
      have p2 := x6.cells.2.2.1
      obtain ⟨n0, n1, n2, n3⟩ := x7.out.cells
      obtain ⟨W7, hW7⟩ : ∃ W7, W7 = w6.setCell ⟨W.heap.size, 2, none⟩ (.int .i64 vb) := ⟨_, rfl⟩
      rw [← hW7] at x7 g7 F7 z7
      have e7 := Lib.hid hW7
      clear m0 m1 m2 m3 x6 g6 f6 o6 hW7
      go_wp2_with (fail)
      rw [← e7.out]
      refine (hPut.out yb _ ⟨op, va, vb, x⟩ W7 (by omega) z7 g7.out).mono ?_
      rintro e w8 ⟨rfl, h8⟩
      have H8 := Lib.hid (GP.trans F7.out O6.out h8)
      clear h8
      go_wp2
      go_ret
      exact ⟨rfl, H8.out⟩

set_option maxHeartbeats 4000000 in
theorem sExpandExpr_any (L B : Nat) (A : Option Addr) (c : Nat) (es : List Nd) (w : World) (hl : es.length ≤ 1048576) (hes : NS w L B A es) (hB : B ≤ w.heap.size) :
    Calls Try.prog 90 #[.slice A es.length c] w (ResExpandExpr (expandR es) (expandOk es) w) := by
  have H := Lib.hid (exGood_any L B A c es w hl hes hB)
  cases hg : good es
  · have hK : Hid (expandOk es = false) := by simp [Hid, expandOk, hg]
    have hR : Hid (expandR es = []) := by simp [Hid, expandR, hK.out]
    rw [hg] at H
    clear hg hes
    go_enter Try.func90, Try.ntmps90
    go_wp2_with (fail)
    refine H.out.mono ?_
    rintro e w2 ⟨rfl, hb⟩
    have hbb := Lib.hid hb
    clear hb
    go_wp2_with (fail)
    go_ret2
    rw [hR.out, hK.out]
    exact ⟨none, 0, rfl, OK.nil _ _ _ _, hbb.out⟩
  · obtain ⟨hl1, hl24, hok⟩ := good_len hg
    have hX := Lib.hid (expand_mw hg)
    have hE := Lib.hid hes
    have hOk := Lib.hid hok
    have hml := Lib.hid (mw_len (es := es) es.length (es.length - 1) [] (by simp)).1
    rw [hg] at H
    clear hg hes hok
    obtain ⟨m, hm⟩ : ∃ m, es.length = m + 1 := ⟨es.length - 1, by omega⟩
    have hM := Lib.hid hm
    have hm0 : (0 : Int) ≤ (es.length : Int) - 1 := by omega
    have hmi : (es.length : Int) - 1 = (m : Int) := by omega
    have hMI := Lib.hid hmi
    clear hm hmi
    go_enter Try.func90, Try.ntmps90
    go_wp2_with (fail)
    refine H.out.mono ?_
    rintro e w2 ⟨rfl, hb⟩
    have hb2 := Lib.hid hb
    obtain ⟨W3, hW3⟩ : ∃ W3, W3 = w2.alloc (.cells #[.slice none 0 0, .bool false] 174) := ⟨_, rfl⟩
    have b3 : Below w2.heap.size w2 W3 := by rw [hW3]; exact (Below.refl _ _).alloc (Nat.le_refl _) _
    have G3 : Hid (GS 174 [] w2.heap.size (w2.heap.size + 1) [] false (.slice none 0 0) W3) := by
      unfold Hid; rw [hW3]; exact GS.nil _ _ _ _ _
    have z3 : W3.heap.size = w2.heap.size + 1 := by rw [hW3]; simp
    have zb := hb.size
    have B3 := Lib.hid (hb.trans (b3.mono zb))
    have hW := Lib.hid (sWalk_any L B w2.heap.size (w2.heap.size + 1) w.heap.size A c es W3 hl24 hOk.out (hE.out.below B3.out hB) hB (by omega) zb (by omega) (by omega) es.length (es.length - 1) [] (.slice none 0 0) W3 hl24 (by omega) (by omega) (by simp) (Below.refl _ _) G3.out)
    have hmm : es.length - 1 = m := by have := hM.out; omega
    rw [hmm] at hW hX hml
    have E3 := Lib.hid hW3
    clear hb hW3 b3
    generalize mw es es.length m [] = r at *
    obtain ⟨ys, r⟩ := r
    dsimp only at hW hX hml
    go_wp2_with (fail)
    rw [hMI.out]
    rw [← E3.out]
    refine hW.out.mono ?_
    rintro e w4 ⟨rfl, v4, g4, f4, o4⟩
    have bb4 := Lib.hid (B3.out.trans (f4.below (B := w.heap.size) (by omega) zb (fun j hj => by simp [Value.ownBlock] at hj)))
    have z4 := f4.size
    have G4 := Lib.hid g4
    have hy48 : (ys.length : Int) ≤ 48 := by have := hml.out; omega
    obtain ⟨A5, c5, rfl⟩ := G4.out.form
    have q0 := G4.out.c0
    clear g4 f4 o4
    rcases hX.out with ⟨hk, hx, hy⟩ | ⟨hk, hr, hy⟩
    · have hK := Lib.hid hk
      have hX2 := Lib.hid hx
      have hy' : (ys.length : Int) ≤ 24 := by rw [hx]; omega
      clear hk hx hy hX
      go_wp2
      go_ret2
      rw [hK.out, ← hX2.out]
      exact ⟨A5, c5, rfl, G4.out.ok.lower (by omega), bb4.out⟩
    · have hK := Lib.hid hk
      have hR := Lib.hid hr
      have hy' : (24 : Int) < (ys.length : Int) := by omega
      clear hk hr hy hX
      go_wp2
      go_ret2
      rw [hK.out, hR.out]
      exact ⟨none, 0, rfl, OK.nil _ _ _ _, bb4.out⟩
theorem sExpandExpr_k (L B : Nat) (A : Option Addr) (c : Nat) (es : List Nd) (w : World) (hl : es.length ≤ 1048576) (hes : RS Nd.enc 4 w L B A es) (hB : B ≤ w.heap.size) :
    Calls Try.prog 90 #[.slice A es.length c] w (ResExpandExpr (expandR es) (expandOk es) w) := sExpandExpr_any L B A c es w hl hes.ns hB
end Go.Proofs.Ytmhdijklindipaa
