/- Texts of this proof, one behind the other: DR7, DR8, WM, WB, TA, AL. -/
import Derived.Test.YtmhdijklindipaaZ10
import Derived.Test.YtmhdijklindipaaZ9
import Derived.WalkKit
import Derived.WalkSpells
import Derived.WalkLawsBesides
import Derived.Deep.QuietTactic
import Derived.BigQuiet
import Derived.Deep.RegionHeld3
import Derived.Laws.StructEq
import Derived.Lib.Hide
import Derived.Test.YtmhdijklindipaaF
import Derived.Test.YtmhdijklindipaaJ
import Derived.Test.YtmhdijklindipaaD2
import Derived.Test.YtmhdijklindipaaLI
import Derived.Test.YtmhdijklindipaaMI
import Derived.Test.YtmhdijklindipaaZ13
import Derived.Test.YtmhdijklindipaaM2
import Derived.Test.YtmhdijklindipaaZ12
/- The laws' comparisons, of what is the same. -/
namespace Go.Proofs.Ytmhdijklindipaa
open Go.RowKit
set_option linter.unusedVariables false
set_option maxRecDepth 100000

/-- True, and nothing but draws. -/
def YesD (w : World) (e : Ending) (w' : World) : Prop := e = .returned (.bool true) ∧ ∃ n, w' = w.drewN n
theorem below_drewD {B : Nat} {a w : World} (h : Below B a w) (n : Nat) : Below B a (w.drewN n) := ⟨h.os, h.tape, h.output, h.size, h.block⟩
set_option maxHeartbeats 4000000 in
theorem big_no (A A' : Option Addr) (n n' c c' : Nat) (w : World) (h : n ≤ 1048576) (h' : n' ≤ 1048576) (hb : n + n' ≤ 1048576) :
    Calls Try.prog 13 #[.slice A n c, .slice A' n' c'] w fun e w' => e = .returned (.bool false) ∧ w = w' := by
  have h1 : ¬ (1048576 : Int) < (n : Int) := by omega
  have h2 : ¬ (1048576 : Int) - (n : Int) < (n' : Int) := by omega
  have hw1 : IntKind.i64.wrap (1048576 - (n : Int)) = 1048576 - (n : Int) := IntWalk.i64_in _ (by omega)
  go_enter Try.func13, Try.ntmps13
  go_wp2
  go_ret
  exact ⟨by first | rfl | simp, rfl⟩
set_option maxHeartbeats 4000000 in
theorem big_yes (A A' : Option Addr) (n n' c c' : Nat) (w : World) (h : n ≤ 9223372036854775807) (h' : n' ≤ 9223372036854775807) (hb : ¬ n + n' ≤ 1048576) :
    Calls Try.prog 13 #[.slice A n c, .slice A' n' c'] w fun e w' => e = .returned (.bool true) ∧ w = w' := by
  by_cases h1 : (1048576 : Int) < (n : Int)
  · go_enter Try.func13, Try.ntmps13
    go_wp2
    go_ret
    exact ⟨by first | rfl | simp, rfl⟩
  · have h2 : (1048576 : Int) - (n : Int) < (n' : Int) := by omega
    have hw1 : IntKind.i64.wrap (1048576 - (n : Int)) = 1048576 - (n : Int) := IntWalk.i64_in _ (by omega)
    go_enter Try.func13, Try.ntmps13
    go_wp2
    go_ret
    exact ⟨by first | rfl | simp, rfl⟩
set_option maxHeartbeats 4000000 in
theorem pSame_eq (L B L' B' : Nat) (A A' : Option Addr) (m m' c c' : Nat) (xs : List Int) (w : World) (hm : m = xs.length) (hm' : m' = xs.length) (hl : xs.length ≤ 1048576) (hx : IS w L B A xs) (hx' : IS w L' B' A' xs) :
    Calls Try.prog 18 #[.slice A m c, .slice A' m' c'] w (YesD w) := by
  subst hm hm'
  have hX := Lib.hid hx
  have hY := Lib.hid hx'
  clear hx hx'
  go_enter Try.func18, Try.ntmps18
  go_wp2
  go_loopw [13] (fun i wr => ∃ k : Nat, k ≤ xs.length ∧ i = .int .i64 k ∧ ∃ n, wr = w.drewN n) (fun i _ => xs.length - (intOf i).toNat)
  case atStart => exact ⟨0, Nat.zero_le _, rfl, 0, rfl⟩
  case round =>
    obtain ⟨k, hk, rfl, n, rfl⟩ := hrel
    by_cases hlt : k < xs.length
    · obtain ⟨b, o, rfl, _, hc⟩ := hX.out (by omega)
      obtain ⟨b', o', rfl, _, hc'⟩ := hY.out (by omega)
      have c1 := hc k hlt
      have c2 := hc' k hlt
      have k0 : (0 : Int) ≤ (k : Int) := by omega
      have k1 : (k : Int) < (xs.length : Int) := by omega
      clear hc hc'
      generalize xs[k] = x at *
      go_wp2_with (fail)
      go_quiet (fail)
      all_goals go_wp2
      all_goals go_roundw
      case rel => exact ⟨k + 1, by omega, by go_num, _, (by first | rfl | exact World.drewN_drewN _ _ _)⟩
      case measure => simp [intOf]; omega
    · obtain rfl : k = xs.length := by omega
      go_wp2
      go_ret
      exact ⟨rfl, _, rfl⟩
set_option maxHeartbeats 4000000 in
theorem pSameCode_eq (L B L' B' : Nat) (A A' : Option Addr) (m m' c c' : Nat) (xs : List In) (w : World) (hm : m = xs.length) (hm' : m' = xs.length) (hl : xs.length ≤ 1048576) (hx : RS In.enc 5 w L B A xs) (hx' : RS In.enc 5 w L' B' A' xs) :
    Calls Try.prog 30 #[.slice A m c, .slice A' m' c'] w (YesD w) := by
  subst hm hm'
  have hX := Lib.hid hx
  have hY := Lib.hid hx'
  have hgd := in_guard
  clear hx hx'
  go_enter Try.func30, Try.ntmps30
  go_wp2
  go_loopw [13] (fun i wr => ∃ k : Nat, k ≤ xs.length ∧ i = .int .i64 k ∧ ∃ n, wr = w.drewN n) (fun i _ => xs.length - (intOf i).toNat)
  case atStart => exact ⟨0, Nat.zero_le _, rfl, 0, rfl⟩
  case round =>
    obtain ⟨k, hk, rfl, n, rfl⟩ := hrel
    by_cases hlt : k < xs.length
    · obtain ⟨b, o, rfl, _, hc⟩ := In.cells hX.out (by omega)
      obtain ⟨b', o', rfl, _, hc'⟩ := In.cells hY.out (by omega)
      obtain ⟨c1, c2, c3, c4, c5⟩ := hc k hlt
      obtain ⟨d1, d2, d3, d4, d5⟩ := hc' k hlt
      have k0 : (0 : Int) ≤ (k : Int) := by omega
      have k1 : (k : Int) < (xs.length : Int) := by omega
      clear hc hc'
      generalize xs[k] = z at *
      obtain ⟨op, d, a, bb, m⟩ := z
      dsimp only at *
      have hEq : ∀ W : World, (Op.equalIn 10000 56 (.agg #[.string op, .int .i64 d, .int .i64 a, .int .i64 bb, .int .i64 m]) (.agg #[.string op, .int .i64 d, .int .i64 a, .int .i64 bb, .int .i64 m])).run Try.prog W = .ok true W := fun W => by
        have h := equalIn_in op op d a bb m d a bb m W
        have hs : sameI ⟨op, d, a, bb, m⟩ ⟨op, d, a, bb, m⟩ = true := by simp [sameI]
        rw [hs] at h; exact h
      go_wp2_with (fail)
      go_quiet (fail)
      all_goals go_wp2
      all_goals go_roundw
      case rel => exact ⟨k + 1, by omega, by go_num, _, (by first | rfl | exact World.drewN_drewN _ _ _)⟩
      case measure => simp [intOf]; omega
    · obtain rfl : k = xs.length := by omega
      go_wp2
      go_ret
      exact ⟨rfl, _, rfl⟩
end Go.Proofs.Ytmhdijklindipaa

/- Rows that are the same; facts that are carried from world to world. -/
namespace Go.Proofs.Ytmhdijklindipaa
open Go.RowKit
set_option linter.unusedVariables false
set_option maxRecDepth 100000

theorem XS.upD {W W' : World} {L : Nat} {A : Option Addr} {xss : List (List Int)} (h : XS W L W.heap.size A xss) (hb : Below W.heap.size W W') : XS W' L W'.heap.size A xss := by
  obtain ⟨vs, hl, hr, hi⟩ := h.below hb (Nat.le_refl _)
  have hB := hb.size
  exact ⟨vs, hl, hr.more (Nat.le_refl _) hB, fun i h1 h2 => by
    obtain ⟨Ai, ci, e, hx⟩ := hi i h1 h2
    exact ⟨Ai, ci, e, fun h0 => by obtain ⟨b, o, e2, ⟨hb1, hb2⟩, hc⟩ := hx h0; exact ⟨b, o, e2, ⟨hb1, by omega⟩, hc⟩⟩⟩
theorem XS.lowD {w : World} {L B : Nat} {A : Option Addr} {xss : List (List Int)} (h : XS w L B A xss) : XS w 0 B A xss := by
  obtain ⟨vs, hl, hr, hi⟩ := h
  exact ⟨vs, hl, hr.more (Nat.zero_le _) (Nat.le_refl _), fun i h1 h2 => by
    obtain ⟨Ai, ci, e, hx⟩ := hi i h1 h2
    exact ⟨Ai, ci, e, fun h0 => by obtain ⟨b, o, e2, ⟨hb1, hb2⟩, hc⟩ := hx h0; exact ⟨b, o, e2, ⟨Nat.zero_le _, hb2⟩, hc⟩⟩⟩
theorem RS.upD {W W' : World} {L : Nat} {A : Option Addr} {xs : List In} (h : RS In.enc 5 W L W.heap.size A xs) (hb : Below W.heap.size W W') : RS In.enc 5 W' L W'.heap.size A xs := (h.below hb (Nat.le_refl _)).more (Nat.le_refl _) hb.size
theorem IS.upD {W W' : World} {L : Nat} {A : Option Addr} {xs : List Int} (h : IS W L W.heap.size A xs) (hb : Below W.heap.size W W') : IS W' L W'.heap.size A xs := (h.below hb (Nat.le_refl _)).more (Nat.le_refl _) hb.size
theorem yes_below {W W' : World} {n : Nat} (h : W' = W.drewN n) : Below W.heap.size W W' := by rw [h]; exact below_drewD (Below.refl _ _) n
theorem IS.nilD (w : World) (L B : Nat) (A : Option Addr) : IS w L B A [] := fun h => absurd h (by simp)
set_option maxHeartbeats 4000000 in
theorem pSameRows_eq (L B L' B' : Nat) (A A' : Option Addr) (m m' c c' : Nat) (xss : List (List Int)) (w : World) (hm : m = xss.length) (hm' : m' = xss.length) (hl : xss.length ≤ 1048576) (hls : ∀ xs ∈ xss, xs.length ≤ 1048576) (hx : XS w L B A xss) (hx' : XS w L' B' A' xss) :
    Calls Try.prog 36 #[.slice A m c, .slice A' m' c'] w (YesD w) := by
  subst hm hm'
  have hX := Lib.hid hx
  have hY := Lib.hid hx'
  have hL := Lib.hid hls
  clear hx hx' hls
  go_enter Try.func36, Try.ntmps36
  go_wp2
  go_loopw [13] (fun i wr => ∃ k : Nat, k ≤ xss.length ∧ i = .int .i64 k ∧ ∃ n, wr = w.drewN n) (fun i _ => xss.length - (intOf i).toNat)
  case atStart => exact ⟨0, Nat.zero_le _, rfl, 0, rfl⟩
  case round =>
    obtain ⟨k, hk, rfl, n, hn⟩ := hrel
    have hN := Lib.hid hn
    have hXr : XS wr L B A xss := by rw [hn]; exact hX.out
    have hYr : XS wr L' B' A' xss := by rw [hn]; exact hY.out
    clear hn
    by_cases hlt : k < xss.length
    · obtain ⟨b, o, Ai, ci, rfl, _, c1, hI⟩ := hXr.at hlt
      obtain ⟨b', o', Ai', ci', rfl, _, d1, hI'⟩ := hYr.at hlt
      have k0 : (0 : Int) ≤ (k : Int) := by omega
      have k1 : (k : Int) < (xss.length : Int) := by omega
      have hS := Lib.hid fun (q : Nat) => pSame_eq L B L' B' Ai Ai' xss[k].length xss[k].length ci ci' xss[k] (wr.drewN q) rfl rfl (hL.out _ (List.getElem_mem _)) hI hI'
      clear hI hI' hXr hYr
      generalize xss[k].length = m at *
      go_wp2_with (fail)
      go_quiet ((go_at_call 18; exact Calls.quiet_of (hS.out _)))
      all_goals go_wp2
      all_goals go_roundw
      case rel => exact ⟨k + 1, by omega, by go_num, n + nq, by rw [hN.out]; exact World.drewN_drewN _ _ _⟩
      case measure => simp [intOf]; omega
    · obtain rfl : k = xss.length := by omega
      clear hXr hYr
      go_wp2
      go_ret
      exact ⟨rfl, n, hN.out⟩
end Go.Proofs.Ytmhdijklindipaa

/- What a node needs, and nodes moved to new places. No program. -/
namespace Go.Proofs.Ytmhdijklindipaa
open Go.RowKit
set_option linter.unusedVariables false

def setAll (ps : List Int) (b : List Bool) : List Bool := ps.foldl (fun b p => b.set p.toNat true) b
theorem setAll_len (ps : List Int) : ∀ b, (setAll ps b).length = b.length := by
  induction ps with
  | nil => intro b; rfl
  | cons a l ih => intro b; show (setAll l (b.set a.toNat true)).length = _; rw [ih, List.length_set]
theorem setAll_snoc (ps : List Int) (p : Int) (b : List Bool) : setAll (ps ++ [p]) b = (setAll ps b).set p.toNat true := by simp [setAll, List.foldl_append]
theorem getD_set_ne {b : List Bool} {i k : Nat} (x : Bool) (h : k ≠ i) : (b.set k x).getD i false = b.getD i false := by
  rw [List.getD_eq_getElem?_getD, List.getD_eq_getElem?_getD, List.getElem?_set_ne h]
theorem setAll_get {i : Nat} (ps : List Int) : ∀ b, (∀ p ∈ ps, p.toNat ≠ i) → (setAll ps b).getD i false = b.getD i false := by
  induction ps with
  | nil => intro b _; rfl
  | cons a l ih =>
    intro b h
    show (setAll l (b.set a.toNat true)).getD i false = _
    rw [ih _ (fun p hp => h p (by simp [hp])), getD_set_ne _ (h a (by simp))]
/-- Behind j parts of the node i. -/
def nstep (n : Nd) (i : Nat) (b : List Bool) (j : Nat) : List Bool := if b.getD i false = true then setAll ((parts n).take j) b else b
theorem nstep_len (n : Nd) (i : Nat) (b : List Bool) (j : Nat) : (nstep n i b j).length = b.length := by
  unfold nstep; split
  · exact setAll_len _ _
  · rfl
theorem nstep_zero (n : Nd) (i : Nat) (b : List Bool) : nstep n i b 0 = b := by unfold nstep; split <;> rfl
theorem nstep_self {n : Nd} {i : Nat} (b : List Bool) (j : Nat) (h : ∀ p ∈ parts n, 0 ≤ p ∧ p ≤ (i : Int) - 1) : (nstep n i b j).getD i false = b.getD i false := by
  unfold nstep; split
  · exact setAll_get _ _ (fun p hp => by have := h p (List.mem_of_mem_take hp); omega)
  · rfl
theorem nstep_succ {n : Nd} {i : Nat} {b : List Bool} {j : Nat} (hj : j < (parts n).length) (h : ∀ p ∈ parts n, 0 ≤ p ∧ p ≤ (i : Int) - 1) :
    (nstep n i b j).set ((parts n)[j]).toNat ((nstep n i b j).getD ((parts n)[j]).toNat false || b.getD i false) = nstep n i b (j + 1) := by
  unfold nstep
  by_cases hb : b.getD i false = true
  · rw [if_pos hb, if_pos hb, hb, Bool.or_true, List.take_succ_eq_append_getElem hj, setAll_snoc]
  · rw [if_neg hb, if_neg hb]
    have hb' : b.getD i false = false := by simpa using hb
    rw [hb', Bool.or_false]
    apply List.ext_getElem?
    intro q
    rw [List.getElem?_set]
    split
    · rename_i hq; subst hq
      split
      · rename_i hlt; rw [List.getD_eq_getElem?_getD, List.getElem?_eq_getElem hlt]; rfl
      · rename_i hge; rw [List.getElem?_eq_none (by omega)]
    · rfl
def nfull (n : Nd) (i : Nat) (b : List Bool) : List Bool := nstep n i b (parts n).length
def needFrom (es : List Nd) (root : Nat) : Nat → List Bool
  | 0 => (List.replicate (root + 1) false).set root true
  | k + 1 => nfull (es.getD (root - k) zeroNd) (root - k) (needFrom es root k)
theorem needFrom_len (es : List Nd) (root : Nat) : ∀ k, (needFrom es root k).length = root + 1 := by
  intro k
  induction k with
  | zero => simp [needFrom]
  | succ k ih => rw [needFrom, nfull, nstep_len, ih]
/-- What is needed when the nodes from q on have been seen. -/
def needTo (es : List Nd) (root q : Nat) : List Bool := needFrom es root (root + 1 - q)
def need (es : List Nd) (root : Nat) : List Bool := needTo es root 0
theorem needTo_len (es : List Nd) (root q : Nat) : (needTo es root q).length = root + 1 := needFrom_len _ _ _
theorem needTo_start (es : List Nd) (root : Nat) : needTo es root (root + 1) = (List.replicate (root + 1) false).set root true := by
  unfold needTo; rw [Nat.sub_self]; rfl
theorem needTo_step {es : List Nd} {root m : Nat} (hm : m ≤ root) (hr : root < es.length) : needTo es root m = nfull (es[m]'(by omega)) m (needTo es root (m + 1)) := by
  unfold needTo
  rw [show root + 1 - m = (root + 1 - (m + 1)) + 1 by omega, needFrom, show root - (root + 1 - (m + 1)) = m by omega, List.getD_eq_getElem?_getD, List.getElem?_eq_getElem (by omega)]
  rfl

/-- A node whose operands have new places. -/
def moved (n : Nd) (ps : List Int) : Nd := ⟨n.op, if 0 < ar n.op then ps.getD n.a.toNat 0 else 0, if 1 < ar n.op then ps.getD n.b.toNat 0 else 0, n.v⟩
def kp (es : List Nd) (nb : List Bool) (m : Nat) : Nat → List Int × List Nd
  | 0 => (zeros m, [])
  | k + 1 => if nb.getD k false = true then (((kp es nb m k).1).set k ((kp es nb m k).2.length : Int), (kp es nb m k).2 ++ [moved (es.getD k zeroNd) (kp es nb m k).1]) else kp es nb m k
def pl (es : List Nd) (nb : List Bool) (m k : Nat) : List Int := (kp es nb m k).1
def ke (es : List Nd) (nb : List Bool) (m k : Nat) : List Nd := (kp es nb m k).2
theorem pl_len (es : List Nd) (nb : List Bool) (m : Nat) : ∀ k, (pl es nb m k).length = m := by
  intro k
  induction k with
  | zero => simp [pl, kp, zeros]
  | succ k ih =>
    unfold pl kp; split
    · rw [List.length_set]; exact ih
    · exact ih
theorem ke_len (es : List Nd) (nb : List Bool) (m : Nat) : ∀ k, (ke es nb m k).length ≤ k := by
  intro k
  induction k with
  | zero => simp [ke, kp]
  | succ k ih =>
    unfold ke kp; split
    · rw [List.length_append]; simp only [List.length_cons, List.length_nil]; unfold ke at ih; omega
    · unfold ke at ih; omega
theorem kp_yes {es : List Nd} {nb : List Bool} {m k : Nat} (hk : k < es.length) (h : nb.getD k false = true) :
    pl es nb m (k + 1) = (pl es nb m k).set k ((ke es nb m k).length : Int) ∧ ke es nb m (k + 1) = ke es nb m k ++ [moved es[k] (pl es nb m k)] := by
  unfold pl ke
  rw [kp, if_pos h, List.getD_eq_getElem?_getD, List.getElem?_eq_getElem hk]
  exact ⟨rfl, rfl⟩
theorem kp_no {es : List Nd} {nb : List Bool} {m k : Nat} (h : nb.getD k false = false) : pl es nb m (k + 1) = pl es nb m k ∧ ke es nb m (k + 1) = ke es nb m k := by
  unfold pl ke
  rw [kp, if_neg (by rw [h]; decide)]
  exact ⟨rfl, rfl⟩
def keepL (es : List Nd) (root : Nat) : List Nd := ke es (need es root) (root + 1) (root + 1)
theorem getD_set_lt {ps : List Int} {i k : Nat} (x : Int) (h : i < k) : (ps.set k x).getD i 0 = ps.getD i 0 := by
  rw [List.getD_eq_getElem?_getD, List.getD_eq_getElem?_getD, List.getElem?_set_ne (by omega)]
theorem ar_cases_nd {n : Nd} {i : Int} (h : isNode n i = true) : (ar n.op = 0 ∧ isOne n.op = false ∧ isTwo n.op = false ∧ n.a = 0 ∧ n.b = 0) ∨ (ar n.op = 1 ∧ isOne n.op = true ∧ isTwo n.op = false ∧ 0 ≤ n.a ∧ n.a < i ∧ n.b = 0) ∨ (ar n.op = 2 ∧ isOne n.op = false ∧ isTwo n.op = true ∧ 0 ≤ n.a ∧ n.a < i ∧ 0 ≤ n.b ∧ n.b < i) := by
  unfold isNode at h
  unfold ar
  by_cases h1 : isIn n.op = true
  · rw [if_pos h1] at h
    simp only [Bool.and_eq_true, beq_iff_eq] at h
    have hx : n.op.toList = [105,110] := by simpa [isIn] using h1
    left; refine ⟨by simp [h1], ?_, ?_, h.1.1, h.1.2⟩ <;> simp [isOne, isTwo, twoOps, hx]
  · rw [if_neg h1] at h
    by_cases h2 : isConst n.op = true
    · rw [if_pos h2] at h
      simp only [Bool.and_eq_true, beq_iff_eq] at h
      have hx : n.op.toList = [99,111,110,115,116] := by simpa [isConst] using h2
      left; refine ⟨by simp [h2], ?_, ?_, h.1.1, h.1.2⟩ <;> simp [isOne, isTwo, twoOps, hx]
    · rw [if_neg h2] at h
      by_cases h3 : isOne n.op = true
      · rw [if_pos h3] at h
        simp only [Bool.and_eq_true, beq_iff_eq] at h
        have h4 := (inR_iff _ _ _).1 h.1.1
        have h5 : isTwo n.op = false := by
          cases h6 : isTwo n.op
          · rfl
          · have := two_not_one _ h6; rw [this] at h3; cases h3
        right; left; exact ⟨by simp [h1, h2, h3], h3, h5, h4.1, by omega, h.1.2⟩
      · rw [if_neg h3] at h
        simp only [Bool.and_eq_true, beq_iff_eq] at h
        have h4 := (inR_iff _ _ _).1 h.1.1.2
        have h5 := (inR_iff _ _ _).1 h.1.2
        right; right; exact ⟨by simp [h1, h2, h3, h.1.1.1], by simpa using h3, h.1.1.1, h4.1, by omega, h5.1, by omega⟩
theorem moved_set {n : Nd} {k : Nat} (h : isNode n k = true) (ps : List Int) (x : Int) : moved n (ps.set k x) = moved n ps := by
  unfold moved
  rcases ar_cases_nd h with ⟨h1, _, _, _, _⟩ | ⟨h1, _, _, h2, h3, _⟩ | ⟨h1, _, _, h2, h3, h4, h5⟩
  · simp [h1]
  · simp only [h1]; rw [getD_set_lt _ (by omega)]; simp
  · simp only [h1]; rw [getD_set_lt _ (by omega), getD_set_lt _ (by omega)]
end Go.Proofs.Ytmhdijklindipaa

/- Blocks of bools, boxes of a node; a node moved. -/
namespace Go.Proofs.Ytmhdijklindipaa
open Go.RowKit
set_option linter.unusedVariables false
set_option maxRecDepth 100000

def boolCells (bs : List Bool) : Array Value := (bs.map Value.bool).toArray
/-- A block of bools known whole. -/
def BB (w : World) (g : Nat) (bs : List Bool) : Prop := w.heap[g]? = some (.cells (boolCells bs) 4 (0, 0))
theorem BB.lt {w : World} {g : Nat} {bs : List Bool} (h : BB w g bs) : g < w.heap.size := by
  rcases Nat.lt_or_ge g w.heap.size with hlt | hge
  · exact hlt
  · unfold BB at h; rw [Array.getElem?_eq_none hge] at h; cases h
theorem BB.cell {w : World} {g : Nat} {bs : List Bool} (h : BB w g bs) (i : Nat) (hi : i < bs.length) : w.cell? ⟨g, i, none⟩ = some (.bool (bs.getD i false)) := by
  rw [cell_of_row w g i _ 4 (0, 0) h, List.getD_eq_getElem?_getD, List.getElem?_eq_getElem hi]; simp [boolCells, hi]
theorem BB.frozen {w : World} {g : Nat} {bs : List Bool} (h : BB w g bs) (i : Nat) : w.frozen? ⟨g, i, none⟩ = false := by
  unfold BB at h; simp [World.frozen?, h]
theorem BB.set {w : World} {g : Nat} {bs : List Bool} (h : BB w g bs) (i : Nat) (x : Bool) : BB (w.setCell ⟨g, i, none⟩ (.bool x)) g (bs.set i x) := by
  unfold BB at h ⊢
  simp [World.setCell, Array.getElem?_modify, h, boolCells, List.map_set]
theorem BB.next {w w' : World} {g : Nat} {bs : List Bool} (h : BB w g bs) (hb : Below w.heap.size w w') : BB w' g bs := (hb.block g h.lt).trans h
theorem BB.other {w : World} {g q : Nat} {bs : List Bool} (h : BB w g bs) (j : Nat) (x : Value) (hne : q ≠ g) : BB (w.setCell ⟨q, j, none⟩ x) g bs :=
  (Below.heap_setCell w ⟨q, j, none⟩ x g (by simpa using fun e => hne e.symm)).trans h
theorem Try.infoBool : (Try.prog.info? 4).map (fun i => (i.zero, i.size, i.bytes)) = some (some (.bool false), 1, 1) := by kernel_rfl
theorem run_make_bools (n : Nat) (hn : n ≤ 1048576) (W : World) : (Instr.makeSlice 209 (.int .i64 (n : Int)) (.int .i64 (n : Int))).run Try.prog W = .ok (.slice (some ⟨W.heap.size, 0, none⟩) n n) (W.alloc (.cells (boolCells (List.replicate n false)) 4)) := by
  obtain ⟨i0, hi, hz0, hz1, hz2⟩ := info_parts Try.infoBool
  have h := run_make (P := Try.prog) W 209 4 i0 _ Try.underlying209 hi hz0 .i64 .i64 n n (by omega) (by omega) (by rw [hz2]; omega) (by omega)
  rw [h]
  simp only [Int.toNat_natCast, hz1, Nat.mul_one]
  refine congrArg (fun c => Result.ok (Value.slice (some ⟨W.heap.size, 0, none⟩) n n) (W.alloc (.cells c 4))) ?_
  apply Array.ext'
  rw [boolCells, List.map_replicate]
  exact toList_madeCells_one _ _

/-- One node in a box. -/
def XN (w : World) (g : Nat) (n : Nd) : Prop := w.heap[g]? = some (.cells #[.string n.op, .int .i64 n.a, .int .i64 n.b, .int .i64 n.v] 40 (0, 0))
theorem XN.lt {w : World} {g : Nat} {n : Nd} (h : XN w g n) : g < w.heap.size := by
  rcases Nat.lt_or_ge g w.heap.size with hlt | hge
  · exact hlt
  · unfold XN at h; rw [Array.getElem?_eq_none hge] at h; cases h
theorem XN.next {w w' : World} {g : Nat} {n : Nd} (h : XN w g n) (hb : Below w.heap.size w w') : XN w' g n := (hb.block g h.lt).trans h
theorem XN.cells {w : World} {g : Nat} {n : Nd} (h : XN w g n) : w.cell? ⟨g, 0, none⟩ = some (.string n.op) ∧ w.cell? ⟨g, 1, none⟩ = some (.int .i64 n.a) ∧ w.cell? ⟨g, 2, none⟩ = some (.int .i64 n.b) ∧ w.cell? ⟨g, 3, none⟩ = some (.int .i64 n.v) := by
  have c := fun i => cell_of_row w g i _ 40 (0, 0) h
  exact ⟨c 0, c 1, c 2, c 3⟩
theorem XN.fz {w : World} {g : Nat} {n : Nd} (h : XN w g n) (i : Nat) : w.frozen? ⟨g, i, none⟩ = false := by
  unfold XN at h; simp [World.frozen?, h]
theorem XN.setA {w : World} {g : Nat} {n : Nd} (h : XN w g n) (x : Int) : XN (w.setCell ⟨g, 1, none⟩ (.int .i64 x)) g ⟨n.op, x, n.b, n.v⟩ := by
  unfold XN at h ⊢
  simp [World.setCell, Array.getElem?_modify, h]
theorem XN.setB {w : World} {g : Nat} {n : Nd} (h : XN w g n) (x : Int) : XN (w.setCell ⟨g, 2, none⟩ (.int .i64 x)) g ⟨n.op, n.a, x, n.v⟩ := by
  unfold XN at h ⊢
  simp [World.setCell, Array.getElem?_modify, h]
theorem XN.other {w : World} {g q : Nat} {n : Nd} (h : XN w g n) (j : Nat) (x : Value) (hne : q ≠ g) : XN (w.setCell ⟨q, j, none⟩ x) g n :=
  (Below.heap_setCell w ⟨q, j, none⟩ x g (by simpa using fun e => hne e.symm)).trans h
def put4 (w : World) (g : Nat) (n : Nd) : World := (((w.setCell ⟨g, 0, none⟩ (.string n.op)).setCell ⟨g, 1, none⟩ (.int .i64 n.a)).setCell ⟨g, 2, none⟩ (.int .i64 n.b)).setCell ⟨g, 3, none⟩ (.int .i64 n.v)
theorem XN.put4 {w : World} {g : Nat} {n : Nd} (h : XN w g n) (m : Nd) : XN (put4 w g m) g m := by
  unfold XN Go.Proofs.Ytmhdijklindipaa.put4 at *
  simp [World.setCell, Array.getElem?_modify, h]
theorem below_put4 {w w' : World} {B g : Nat} (h : Below B w w') (hg : B ≤ g) (n : Nd) : Below B w (put4 w' g n) :=
  (((h.setCell (p := ⟨g, 0, none⟩) hg _).setCell (p := ⟨g, 1, none⟩) hg _).setCell (p := ⟨g, 2, none⟩) hg _).setCell (p := ⟨g, 3, none⟩) hg _
theorem xn_new (w : World) (n : Nd) : XN (w.alloc (.cells #[.string n.op, .int .i64 n.a, .int .i64 n.b, .int .i64 n.v] 40)) w.heap.size n := heap_alloc_new w _
/-- A function whose result is a node in a cell. -/
theorem node_ret {fn : Func} {Q : Ending → World → Prop} {tmps : Array Value} {w : World} {g : Nat} {n : Nd} {s : Tmp} (hr : fn.results = #[.cell s 40]) (hs : tmps.getD s undef = .pointer (some ⟨g, 0, none⟩))
    (h : XN w g n) (hq : Q (.returned (.agg #[.string n.op, .int .i64 n.a, .int .i64 n.b, .int .i64 n.v])) w) : bodyPost Try.prog fn Q .ret ⟨tmps, []⟩ w := by
  obtain ⟨q0, q1, q2, q3⟩ := h.cells
  refine bodyPost_ret (v := .agg #[.string n.op, .int .i64 n.a, .int .i64 n.b, .int .i64 n.v]) ?_ rfl hq
  have hs' : tmps[s]?.getD undef = .pointer (some ⟨g, 0, none⟩) := by simpa using hs
  simp [results, hr, hs', go_sem, q0, q1, q2, q3]
end Go.Proofs.Ytmhdijklindipaa

/- Sets of registers, and the temporaries that code writes. -/
namespace Go.Proofs.Ytmhdijklindipaa
open Go.RowKit
set_option linter.unusedVariables false

def mkT (bs : List Bool) : List Int := ((List.range 6).filter (fun r => bs.getD r false)).map (fun n : Nat => (n : Int))
def mkTo (bs : List Bool) (k : Nat) : List Int := ((List.range k).filter (fun r => bs.getD r false)).map (fun n : Nat => (n : Int))
theorem mkTo_all (bs : List Bool) : mkTo bs 6 = mkT bs := rfl
theorem mkTo_yes {bs : List Bool} {k : Nat} (h : bs.getD k false = true) : mkTo bs (k + 1) = mkTo bs k ++ [(k : Int)] := by
  unfold mkTo; rw [List.range_succ, List.filter_append, List.map_append, List.filter_cons_of_pos (p := fun r => bs.getD r false) h]; rfl
theorem mkTo_no {bs : List Bool} {k : Nat} (h : bs.getD k false = false) : mkTo bs (k + 1) = mkTo bs k := by
  unfold mkTo; rw [List.range_succ, List.filter_append, List.map_append, List.filter_cons_of_neg (p := fun r => bs.getD r false) (by simp only [h]; decide)]; simp
theorem mkTo_len (bs : List Bool) (k : Nat) : (mkTo bs k).length ≤ k := by
  unfold mkTo; rw [List.length_map]; exact Nat.le_trans (List.length_filter_le _ _) (by simp)
def stT (bs : List Bool) (d : Int) : List Bool := bs.set d.toNat (decide (2 ≤ d))
def foT (cs : List In) : List Bool := cs.foldl (fun b x => stT b x.d) (List.replicate 6 false)
def tmR (cs : List In) : Int := if okCode cs = true then ((mkT (foT cs)).length : Int) else 0
def IsT (bs : List Bool) : Prop := ∃ b2 b3 b4 b5, bs = [false, false, b2, b3, b4, b5]
theorem step_all : ∀ (b2 b3 b4 b5 : Bool) (d : Fin 6), mkT (stT [false, false, b2, b3, b4, b5] (d.val : Int)) = (if 1 < d.val then put (mkT [false, false, b2, b3, b4, b5]) (d.val : Int) else mkT [false, false, b2, b3, b4, b5]) ∧ ((stT [false, false, b2, b3, b4, b5] (d.val : Int)).getD 0 false = false ∧ (stT [false, false, b2, b3, b4, b5] (d.val : Int)).getD 1 false = false) := by decide +kernel
theorem isT_of {bs : List Bool} (hl : bs.length = 6) (h0 : bs.getD 0 false = false) (h1 : bs.getD 1 false = false) : IsT bs := by
  match bs, hl with
  | [a, b, c, d, e, f], _ =>
    simp at h0 h1
    subst h0; subst h1
    exact ⟨c, d, e, f, rfl⟩
theorem step_T {bs : List Bool} (h : IsT bs) {d : Int} (h0 : 0 ≤ d) (h5 : d ≤ 5) : mkT (stT bs d) = (if 1 < d then put (mkT bs) d else mkT bs) ∧ IsT (stT bs d) := by
  obtain ⟨b2, b3, b4, b5, rfl⟩ := h
  obtain ⟨k, rfl⟩ := Int.eq_ofNat_of_zero_le h0
  have hk : k < 6 := by omega
  have := step_all b2 b3 b4 b5 ⟨k, hk⟩
  refine ⟨?_, isT_of (by simp [stT]) this.2.1 this.2.2⟩
  have e := this.1
  simp only at e
  rw [e]
  by_cases h1 : 1 < k
  · rw [if_pos h1, if_pos (by omega)]
  · rw [if_neg h1, if_neg (by omega)]
theorem foT_snoc {cs : List In} {k : Nat} (h : k < cs.length) : foT (cs.take (k + 1)) = stT (foT (cs.take k)) cs[k].d := by
  unfold foT; rw [List.take_succ_eq_append_getElem h, List.foldl_append]; rfl
theorem foT_is {cs : List In} (hc : ∀ x ∈ cs, goodIn x = true) (k : Nat) (hk : k ≤ cs.length) : IsT (foT (cs.take k)) := by
  induction k with
  | zero => exact ⟨false, false, false, false, rfl⟩
  | succ k ih =>
    have hl : k < cs.length := hk
    rw [foT_snoc hl]
    have hd := (good_parts (hc _ (List.getElem_mem hl))).1
    exact (step_T (ih (by omega)) hd.1 hd.2).2
theorem IsT.len {bs : List Bool} (h : IsT bs) : bs.length = 6 := by obtain ⟨_, _, _, _, rfl⟩ := h; rfl

/-- A set of registers in a box. -/
def BT (w : World) (g : Nat) (bs : List Bool) : Prop := w.heap[g]? = some (.cells (boolCells bs) 143 (0, 0))
theorem BT.lt {w : World} {g : Nat} {bs : List Bool} (h : BT w g bs) : g < w.heap.size := by
  rcases Nat.lt_or_ge g w.heap.size with hlt | hge
  · exact hlt
  · unfold BT at h; rw [Array.getElem?_eq_none hge] at h; cases h
theorem BT.cell {w : World} {g : Nat} {bs : List Bool} (h : BT w g bs) (i : Nat) (hi : i < bs.length) : w.cell? ⟨g, i, none⟩ = some (.bool (bs.getD i false)) := by
  rw [cell_of_row w g i _ 143 (0, 0) h, List.getD_eq_getElem?_getD, List.getElem?_eq_getElem hi]; simp [boolCells, hi]
theorem BT.frozen {w : World} {g : Nat} {bs : List Bool} (h : BT w g bs) (i : Nat) : w.frozen? ⟨g, i, none⟩ = false := by
  unfold BT at h; simp [World.frozen?, h]
theorem BT.set {w : World} {g : Nat} {bs : List Bool} (h : BT w g bs) (i : Nat) (x : Bool) : BT (w.setCell ⟨g, i, none⟩ (.bool x)) g (bs.set i x) := by
  unfold BT at h ⊢
  simp [World.setCell, Array.getElem?_modify, h, boolCells, List.map_set]
theorem BT.next {w w' : World} {B g : Nat} {bs : List Bool} (h : BT w g bs) (hb : Below B w w') (hB : g < B) : BT w' g bs := (hb.block g hB).trans h
end Go.Proofs.Ytmhdijklindipaa

/- Registers alive: plain. -/
namespace Go.Proofs.Ytmhdijklindipaa
open Go.RowKit
set_option linter.unusedVariables false

/-- What is alive before an instruction: bits, and lists. -/
def bkTo (x : In) (bs : List Bool) (k : Nat) : List Bool := ((readsL x).take k).foldl (fun c r => c.set r.toNat true) (bs.set x.d.toNat false)
def bkB (bs : List Bool) (x : In) : List Bool := bkTo x bs (readsL x).length
theorem bkTo_zero (x : In) (bs : List Bool) : bkTo x bs 0 = bs.set x.d.toNat false := rfl
theorem bkTo_succ {x : In} (bs : List Bool) {k : Nat} (h : k < (readsL x).length) : bkTo x bs (k + 1) = (bkTo x bs k).set (readsL x)[k].toNat true := by
  unfold bkTo; rw [List.take_succ_eq_append_getElem h, List.foldl_append]; rfl
theorem bkTo_len (x : In) (bs : List Bool) (k : Nat) : (bkTo x bs k).length = bs.length := by
  unfold bkTo
  generalize (readsL x).take k = l
  have : ∀ (l : List Int) (c : List Bool), (l.foldl (fun c r => c.set r.toNat true) c).length = c.length := by
    intro l
    induction l with
    | nil => intro c; rfl
    | cons r l ih => intro c; rw [List.foldl_cons, ih, List.length_set]
  rw [this, List.length_set]
def lvTo (x : In) (L : List Int) (k : Nat) : List Int := (L.take k).foldl (fun o r => if r = x.d then o else put o r) (readsL x)
def lvB (x : In) (L : List Int) : List Int := lvTo x L L.length
theorem lvTo_zero (x : In) (L : List Int) : lvTo x L 0 = readsL x := rfl
theorem lvTo_same {x : In} {L : List Int} {k : Nat} (h : k < L.length) (e : L[k] = x.d) : lvTo x L (k + 1) = lvTo x L k := by
  unfold lvTo; rw [List.take_succ_eq_append_getElem h, List.foldl_append, List.foldl_cons, List.foldl_nil, if_pos e]
theorem lvTo_put {x : In} {L : List Int} {k : Nat} (h : k < L.length) (e : ¬ L[k] = x.d) : lvTo x L (k + 1) = put (lvTo x L k) L[k] := by
  unfold lvTo; rw [List.take_succ_eq_append_getElem h, List.foldl_append, List.foldl_cons, List.foldl_nil, if_neg e]
theorem lvTo_len (x : In) (L : List Int) : ∀ k, (lvTo x L k).length ≤ 2 + k
  | 0 => by rw [lvTo_zero]; exact readsL_len x
  | k + 1 => by
    have ih := lvTo_len x L k
    by_cases h : k < L.length
    · by_cases e : L[k] = x.d
      · rw [lvTo_same h e]; omega
      · rw [lvTo_put h e]; have := put_len (lvTo x L k) L[k]; omega
    · have : lvTo x L (k + 1) = lvTo x L k := by unfold lvTo; rw [List.take_of_length_le (by omega), List.take_of_length_le (by omega)]
      rw [this]; omega
def In6 (r : Int) : Prop := 0 ≤ r ∧ r ≤ 5
theorem put_all : ∀ (b0 b1 b2 b3 b4 b5 : Bool) (d : Fin 6), put (mkT [b0, b1, b2, b3, b4, b5]) (d.val : Int) = mkT ([b0, b1, b2, b3, b4, b5].set d.val true) := by decide +kernel
theorem put_mkT {cs : List Bool} (hl : cs.length = 6) {r : Int} (h : In6 r) : put (mkT cs) r = mkT (cs.set r.toNat true) := by
  obtain ⟨n, rfl⟩ := Int.eq_ofNat_of_zero_le h.1
  have hn : n < 6 := by have := h.2; omega
  match cs, hl with
  | [a, b, c, d, e, f], _ => exact put_all a b c d e f ⟨n, hn⟩
theorem mem_mkT {bs : List Bool} {i : Nat} (hi : i < 6) : (i : Int) ∈ mkT bs ↔ bs.getD i false = true := by
  unfold mkT
  rw [List.mem_map]
  constructor
  · rintro ⟨n, hn, e⟩
    obtain rfl : n = i := by omega
    exact (List.mem_filter.1 hn).2
  · intro h; exact ⟨i, List.mem_filter.2 ⟨List.mem_range.2 hi, h⟩, rfl⟩
theorem mkT_in {bs : List Bool} : ∀ r ∈ mkT bs, In6 r := by
  intro r hr
  unfold mkT at hr
  obtain ⟨n, hn, rfl⟩ := List.mem_map.1 hr
  have := List.mem_range.1 (List.mem_filter.1 hn).1
  unfold In6; omega
def setsB (c : List Bool) (l : List Int) : List Bool := l.foldl (fun c r => c.set r.toNat true) c
theorem setsB_len : ∀ (l : List Int) (c : List Bool), (setsB c l).length = c.length
  | [], c => rfl
  | r :: l, c => by unfold setsB; rw [List.foldl_cons]; have := setsB_len l (c.set r.toNat true); unfold setsB at this; rw [this, List.length_set]
theorem getDB_set {c : List Bool} (r i : Nat) (v : Bool) (hr : r < c.length) : (c.set r v).getD i false = if r = i then v else c.getD i false := by
  rw [List.getD_eq_getElem?_getD, List.getD_eq_getElem?_getD, List.getElem?_set]
  by_cases e : r = i
  · rw [if_pos e, if_pos e, if_pos (by omega)]; rfl
  · rw [if_neg e, if_neg e]
theorem setsB_get : ∀ (l : List Int) (c : List Bool), (∀ r ∈ l, In6 r) → c.length = 6 → ∀ i, i < 6 → ((setsB c l).getD i false = true ↔ (c.getD i false = true ∨ (i : Int) ∈ l))
  | [], c, _, _, i, _ => by simp [setsB]
  | r :: l, c, h, hl, i, hi => by
    have hr := h r (by simp)
    have := setsB_get l (c.set r.toNat true) (fun q hq => h q (by simp [hq])) (by rw [List.length_set]; exact hl) i hi
    unfold setsB at this ⊢
    rw [List.foldl_cons, this, getDB_set _ _ _ (by unfold In6 at hr; omega)]
    by_cases e : r.toNat = i
    · rw [if_pos e]
      have : (i : Int) = r := by unfold In6 at hr; omega
      simp [this]
    · rw [if_neg e]
      have : ¬ (i : Int) = r := by omega
      simp [this]
theorem foldPut : ∀ (l : List Int) (c : List Bool) (d : Int), (∀ r ∈ l, In6 r) → c.length = 6 → l.foldl (fun o r => if r = d then o else put o r) (mkT c) = mkT (setsB c (l.filter (fun r => !decide (r = d))))
  | [], c, d, _, _ => rfl
  | r :: l, c, d, h, hl => by
    rw [List.foldl_cons, List.filter_cons]
    by_cases e : r = d
    · rw [if_pos e, if_neg (by simp [e])]
      exact foldPut l c d (fun q hq => h q (by simp [hq])) hl
    · rw [if_neg e, if_pos (by simp [e]), put_mkT hl (h r (by simp))]
      exact foldPut l (c.set r.toNat true) d (fun q hq => h q (by simp [hq])) (by rw [List.length_set]; exact hl)
theorem boolExt {a b : List Bool} (ha : a.length = 6) (hb : b.length = 6) (h : ∀ i, i < 6 → (a.getD i false = true ↔ b.getD i false = true)) : a = b := by
  refine List.ext_getElem (by omega) fun i h1 h2 => ?_
  have := h i (by omega)
  rw [List.getD_eq_getElem?_getD, List.getD_eq_getElem?_getD, List.getElem?_eq_getElem h1, List.getElem?_eq_getElem h2] at this
  simp only [Option.getD_some] at this
  exact Bool.eq_iff_iff.2 this
/-- What is read, as bits. -/
theorem reads_mkT {x : In} (hx : goodIn x = true) : ∃ c : List Bool, c.length = 6 ∧ readsL x = mkT c := by
  have h := good_parts hx
  have z : ([] : List Int) = mkT [false, false, false, false, false, false] := by decide
  cases ha : (fm x.op).a <;> cases hb : (fm x.op).b
  · rw [reads_ff x (a := true) (b := true) ha hb, z]; exact ⟨_, rfl, rfl⟩
  · rw [reads_ft x ha hb, z, put_mkT rfl ⟨h.2.2.1.1, h.2.2.1.2⟩]; exact ⟨_, by simp, rfl⟩
  · rw [reads_tf x ha hb, z, put_mkT rfl ⟨h.2.1.1, h.2.1.2⟩]; exact ⟨_, by simp, rfl⟩
  · rw [reads_tt x ha hb, z, put_mkT rfl ⟨h.2.1.1, h.2.1.2⟩, put_mkT (by simp) ⟨h.2.2.1.1, h.2.2.1.2⟩]; exact ⟨_, by simp, rfl⟩
theorem reads_in {x : In} (hx : goodIn x = true) : ∀ r ∈ readsL x, In6 r := by
  obtain ⟨c, _, e⟩ := reads_mkT hx
  rw [e]; exact mkT_in
theorem lvB_bits {x : In} (hx : goodIn x = true) {bs : List Bool} (hl : bs.length = 6) : lvB x (mkT bs) = mkT (bkB bs x) := by
  obtain ⟨c, hc, e⟩ := reads_mkT hx
  have hd : In6 x.d := (good_parts hx).1
  unfold lvB lvTo bkB bkTo
  rw [List.take_length, List.take_length, e, foldPut _ _ _ mkT_in hc]
  congr 1
  have hset : (bs.set x.d.toNat false).length = 6 := by rw [List.length_set]; exact hl
  refine boolExt (by rw [setsB_len]; exact hc) (by have := setsB_len (mkT c) (bs.set x.d.toNat false); unfold setsB at this; rw [this]; exact hset) fun i hi => ?_
  have h1 := setsB_get ((mkT bs).filter (fun r => !decide (r = x.d))) c (fun r hr => mkT_in r (List.mem_filter.1 hr).1) hc i hi
  have h2 := setsB_get (mkT c) (bs.set x.d.toNat false) mkT_in hset i hi
  unfold setsB at h2
  rw [h1, h2, mem_mkT hi, List.mem_filter, mem_mkT hi, getDB_set _ _ _ (by unfold In6 at hd; omega)]
  have : (x.d.toNat = i) ↔ ((i : Int) = x.d) := by unfold In6 at hd; omega
  by_cases e2 : x.d.toNat = i
  · rw [if_pos e2]; simp [this.1 e2]
  · rw [if_neg e2]
    have : ¬ (i : Int) = x.d := fun h => e2 (this.2 h)
    simp [this, or_comm]
theorem bkB_len (bs : List Bool) (x : In) : (bkB bs x).length = bs.length := bkTo_len _ _ _
end Go.Proofs.Ytmhdijklindipaa
