/- Texts of this proof, one behind the other: DR7, DR8, DT3, Q, K3, K4. -/
import Derived.Test.YtmhdijklindipaaZ6
import Derived.WalkKit
import Derived.WalkSpells
import Derived.WalkLawsBesides
import Derived.Deep.QuietTactic
import Derived.BigQuiet
import Derived.Deep.RegionHeld3
import Derived.Laws.StructEq
import Derived.Lib.Hide
import Derived.Test.YtmhdijklindipaaZ7
import Derived.Test.YtmhdijklindipaaZ17
import Derived.Test.YtmhdijklindipaaLI
import Derived.Test.YtmhdijklindipaaK2
/- The laws' comparisons, of what is the same. -/
namespace Go.Proofs.Ytmhdijklindipaa
open Go.RowKit
set_option linter.unusedVariables false
set_option maxRecDepth 100000

/-- True, and nothing but draws. -/
def YesD (w : World) (e : Ending) (w' : World) : Prop := e = .returned (.bool true) ∧ ∃ n, w' = w.drewN n
theorem below_drewD {B : Nat} {a w : World} (h : Below B a w) (n : Nat) : Below B a (w.drewN n) := ⟨h.os, h.tape, h.output, h.size, h.block⟩
set_option maxHeartbeats 4000000 in
theorem big_no (A A' : Option Addr) (n n' c c' : Nat) (w : World) (h : n ≤ 1048576) (h' : n' ≤ 1048576) (hb : n + n' ≤ 1048576) :
    Calls Try.prog 13 #[.slice A n c, .slice A' n' c'] w fun e w' => e = .returned (.bool false) ∧ w = w' := by
  have h1 : ¬ (1048576 : Int) < (n : Int) := by omega
  have h2 : ¬ (1048576 : Int) - (n : Int) < (n' : Int) := by omega
  have hw1 : IntKind.i64.wrap (1048576 - (n : Int)) = 1048576 - (n : Int) := IntWalk.i64_in _ (by omega)
  go_enter Try.func13, Try.ntmps13
  go_wp2
  go_ret
  exact ⟨by first | rfl | simp, rfl⟩
set_option maxHeartbeats 4000000 in
theorem big_yes (A A' : Option Addr) (n n' c c' : Nat) (w : World) (h : n ≤ 9223372036854775807) (h' : n' ≤ 9223372036854775807) (hb : ¬ n + n' ≤ 1048576) :
    Calls Try.prog 13 #[.slice A n c, .slice A' n' c'] w fun e w' => e = .returned (.bool true) ∧ w = w' := by
  by_cases h1 : (1048576 : Int) < (n : Int)
  · go_enter Try.func13, Try.ntmps13
    go_wp2
    go_ret
    exact ⟨by first | rfl | simp, rfl⟩
  · have h2 : (1048576 : Int) - (n : Int) < (n' : Int) := by omega
    have hw1 : IntKind.i64.wrap (1048576 - (n : Int)) = 1048576 - (n : Int) := IntWalk.i64_in _ (by omega)
    go_enter Try.func13, Try.ntmps13
    go_wp2
    go_ret
    exact ⟨by first | rfl | simp, rfl⟩
set_option maxHeartbeats 4000000 in
theorem pSame_eq (L B L' B' : Nat) (A A' : Option Addr) (m m' c c' : Nat) (xs : List Int) (w : World) (hm : m = xs.length) (hm' : m' = xs.length) (hl : xs.length ≤ 1048576) (hx : IS w L B A xs) (hx' : IS w L' B' A' xs) :
    Calls Try.prog 18 #[.slice A m c, .slice A' m' c'] w (YesD w) := by
  subst hm hm'
  have hX := Lib.hid hx
  have hY := Lib.hid hx'
  clear hx hx'
  go_enter Try.func18, Try.ntmps18
  go_wp2
  go_loopw [13] (fun i wr => ∃ k : Nat, k ≤ xs.length ∧ i = .int .i64 k ∧ ∃ n, wr = w.drewN n) (fun i _ => xs.length - (intOf i).toNat)
  case atStart => exact ⟨0, Nat.zero_le _, rfl, 0, rfl⟩
  case round =>
    obtain ⟨k, hk, rfl, n, rfl⟩ := hrel
    by_cases hlt : k < xs.length
    · obtain ⟨b, o, rfl, _, hc⟩ := hX.out (by omega)
      obtain ⟨b', o', rfl, _, hc'⟩ := hY.out (by omega)
      have c1 := hc k hlt
      have c2 := hc' k hlt
      have k0 : (0 : Int) ≤ (k : Int) := by omega
      have k1 : (k : Int) < (xs.length : Int) := by omega
      clear hc hc'
      generalize xs[k] = x at *
      go_wp2_with (fail)
      go_quiet (fail)
      all_goals go_wp2
      all_goals go_roundw
      case rel => exact ⟨k + 1, by omega, by go_num, _, (by first | rfl | exact World.drewN_drewN _ _ _)⟩
      case measure => simp [intOf]; omega
    · obtain rfl : k = xs.length := by omega
      go_wp2
      go_ret
      exact ⟨rfl, _, rfl⟩
set_option maxHeartbeats 4000000 in
theorem pSameCode_eq (L B L' B' : Nat) (A A' : Option Addr) (m m' c c' : Nat) (xs : List In) (w : World) (hm : m = xs.length) (hm' : m' = xs.length) (hl : xs.length ≤ 1048576) (hx : RS In.enc 5 w L B A xs) (hx' : RS In.enc 5 w L' B' A' xs) :
    Calls Try.prog 30 #[.slice A m c, .slice A' m' c'] w (YesD w) := by
  subst hm hm'
  have hX := Lib.hid hx
  have hY := Lib.hid hx'
  have hgd := in_guard
  clear hx hx'
  go_enter Try.func30, Try.ntmps30
  go_wp2
  go_loopw [13] (fun i wr => ∃ k : Nat, k ≤ xs.length ∧ i = .int .i64 k ∧ ∃ n, wr = w.drewN n) (fun i _ => xs.length - (intOf i).toNat)
  case atStart => exact ⟨0, Nat.zero_le _, rfl, 0, rfl⟩
  case round =>
    obtain ⟨k, hk, rfl, n, rfl⟩ := hrel
    by_cases hlt : k < xs.length
    · obtain ⟨b, o, rfl, _, hc⟩ := In.cells hX.out (by omega)
      obtain ⟨b', o', rfl, _, hc'⟩ := In.cells hY.out (by omega)
      obtain ⟨c1, c2, c3, c4, c5⟩ := hc k hlt
      obtain ⟨d1, d2, d3, d4, d5⟩ := hc' k hlt
      have k0 : (0 : Int) ≤ (k : Int) := by omega
      have k1 : (k : Int) < (xs.length : Int) := by omega
      clear hc hc'
      generalize xs[k] = z at *
      obtain ⟨op, d, a, bb, m⟩ := z
      dsimp only at *
      have hEq : ∀ W : World, (Op.equalIn 10000 56 (.agg #[.string op, .int .i64 d, .int .i64 a, .int .i64 bb, .int .i64 m]) (.agg #[.string op, .int .i64 d, .int .i64 a, .int .i64 bb, .int .i64 m])).run Try.prog W = .ok true W := fun W => by
        have h := equalIn_in op op d a bb m d a bb m W
        have hs : sameI ⟨op, d, a, bb, m⟩ ⟨op, d, a, bb, m⟩ = true := by simp [sameI]
        rw [hs] at h; exact h
      go_wp2_with (fail)
      go_quiet (fail)
      all_goals go_wp2
      all_goals go_roundw
      case rel => exact ⟨k + 1, by omega, by go_num, _, (by first | rfl | exact World.drewN_drewN _ _ _)⟩
      case measure => simp [intOf]; omega
    · obtain rfl : k = xs.length := by omega
      go_wp2
      go_ret
      exact ⟨rfl, _, rfl⟩
end Go.Proofs.Ytmhdijklindipaa

/- Rows that are the same; facts that are carried from world to world. -/
namespace Go.Proofs.Ytmhdijklindipaa
open Go.RowKit
set_option linter.unusedVariables false
set_option maxRecDepth 100000

theorem XS.upD {W W' : World} {L : Nat} {A : Option Addr} {xss : List (List Int)} (h : XS W L W.heap.size A xss) (hb : Below W.heap.size W W') : XS W' L W'.heap.size A xss := by
  obtain ⟨vs, hl, hr, hi⟩ := h.below hb (Nat.le_refl _)
  have hB := hb.size
  exact ⟨vs, hl, hr.more (Nat.le_refl _) hB, fun i h1 h2 => by
    obtain ⟨Ai, ci, e, hx⟩ := hi i h1 h2
    exact ⟨Ai, ci, e, fun h0 => by obtain ⟨b, o, e2, ⟨hb1, hb2⟩, hc⟩ := hx h0; exact ⟨b, o, e2, ⟨hb1, by omega⟩, hc⟩⟩⟩
theorem XS.lowD {w : World} {L B : Nat} {A : Option Addr} {xss : List (List Int)} (h : XS w L B A xss) : XS w 0 B A xss := by
  obtain ⟨vs, hl, hr, hi⟩ := h
  exact ⟨vs, hl, hr.more (Nat.zero_le _) (Nat.le_refl _), fun i h1 h2 => by
    obtain ⟨Ai, ci, e, hx⟩ := hi i h1 h2
    exact ⟨Ai, ci, e, fun h0 => by obtain ⟨b, o, e2, ⟨hb1, hb2⟩, hc⟩ := hx h0; exact ⟨b, o, e2, ⟨Nat.zero_le _, hb2⟩, hc⟩⟩⟩
theorem RS.upD {W W' : World} {L : Nat} {A : Option Addr} {xs : List In} (h : RS In.enc 5 W L W.heap.size A xs) (hb : Below W.heap.size W W') : RS In.enc 5 W' L W'.heap.size A xs := (h.below hb (Nat.le_refl _)).more (Nat.le_refl _) hb.size
theorem IS.upD {W W' : World} {L : Nat} {A : Option Addr} {xs : List Int} (h : IS W L W.heap.size A xs) (hb : Below W.heap.size W W') : IS W' L W'.heap.size A xs := (h.below hb (Nat.le_refl _)).more (Nat.le_refl _) hb.size
theorem yes_below {W W' : World} {n : Nat} (h : W' = W.drewN n) : Below W.heap.size W W' := by rw [h]; exact below_drewD (Below.refl _ _) n
theorem IS.nilD (w : World) (L B : Nat) (A : Option Addr) : IS w L B A [] := fun h => absurd h (by simp)
set_option maxHeartbeats 4000000 in
theorem pSameRows_eq (L B L' B' : Nat) (A A' : Option Addr) (m m' c c' : Nat) (xss : List (List Int)) (w : World) (hm : m = xss.length) (hm' : m' = xss.length) (hl : xss.length ≤ 1048576) (hls : ∀ xs ∈ xss, xs.length ≤ 1048576) (hx : XS w L B A xss) (hx' : XS w L' B' A' xss) :
    Calls Try.prog 36 #[.slice A m c, .slice A' m' c'] w (YesD w) := by
  subst hm hm'
  have hX := Lib.hid hx
  have hY := Lib.hid hx'
  have hL := Lib.hid hls
  clear hx hx' hls
  go_enter Try.func36, Try.ntmps36
  go_wp2
  go_loopw [13] (fun i wr => ∃ k : Nat, k ≤ xss.length ∧ i = .int .i64 k ∧ ∃ n, wr = w.drewN n) (fun i _ => xss.length - (intOf i).toNat)
  case atStart => exact ⟨0, Nat.zero_le _, rfl, 0, rfl⟩
  case round =>
    obtain ⟨k, hk, rfl, n, hn⟩ := hrel
    have hN := Lib.hid hn
    have hXr : XS wr L B A xss := by rw [hn]; exact hX.out
    have hYr : XS wr L' B' A' xss := by rw [hn]; exact hY.out
    clear hn
    by_cases hlt : k < xss.length
    · obtain ⟨b, o, Ai, ci, rfl, _, c1, hI⟩ := hXr.at hlt
      obtain ⟨b', o', Ai', ci', rfl, _, d1, hI'⟩ := hYr.at hlt
      have k0 : (0 : Int) ≤ (k : Int) := by omega
      have k1 : (k : Int) < (xss.length : Int) := by omega
      have hS := Lib.hid fun (q : Nat) => pSame_eq L B L' B' Ai Ai' xss[k].length xss[k].length ci ci' xss[k] (wr.drewN q) rfl rfl (hL.out _ (List.getElem_mem _)) hI hI'
      clear hI hI' hXr hYr
      generalize xss[k].length = m at *
      go_wp2_with (fail)
      go_quiet ((go_at_call 18; exact Calls.quiet_of (hS.out _)))
      all_goals go_wp2
      all_goals go_roundw
      case rel => exact ⟨k + 1, by omega, by go_num, n + nq, by rw [hN.out]; exact World.drewN_drewN _ _ _⟩
      case measure => simp [intOf]; omega
    · obtain rfl : k = xss.length := by omega
      clear hXr hYr
      go_wp2
      go_ret
      exact ⟨rfl, n, hN.out⟩
end Go.Proofs.Ytmhdijklindipaa

/- What the Draw functions of chapter 1 hand back. -/
namespace Go.Proofs.Ytmhdijklindipaa
open Go.RowKit
set_option linter.unusedVariables false
set_option maxRecDepth 100000

def GotE (w w' : World) (v : Value) (N : Nat) (xs : List Nd) : Prop := ∃ (A : Option Addr) (c : Nat), v = .slice A xs.length c ∧ xs.length ≤ N ∧ xs.length ≤ c ∧ RS Nd.enc 4 w' w.heap.size w'.heap.size A xs
theorem OK.rsN {t : TypeId} {w : World} {lo hi n c : Nat} {A : Option Addr} {xs : List Nd} (h : OK Nd.enc 4 t w lo hi (.slice A n c) xs) : RS Nd.enc 4 w lo hi A xs := by
  obtain ⟨A', c', he, hr⟩ := OK.form Nd.hk h
  injection he with h1 _ _
  subst h1; exact hr
theorem RS.stepE {w W W' : World} {L g K : Nat} {A : Option Addr} {xs : List Nd} (h : RS Nd.enc 4 W L W.heap.size A xs) (hd : Dd w L g K W) (hch : Chg g (g + 1) W W') : RS Nd.enc 4 W' L W'.heap.size A xs :=
  (h.chg hch (Nat.le_refl _) (.inr hd.gl)).more (Nat.le_refl _) hch.size
theorem RS.upE {W W' : World} {L : Nat} {A : Option Addr} {xs : List Nd} (h : RS Nd.enc 4 W L W.heap.size A xs) (hb : Below W.heap.size W W') : RS Nd.enc 4 W' L W'.heap.size A xs := (h.below hb (Nat.le_refl _)).more (Nat.le_refl _) hb.size

set_option maxHeartbeats 4000000 in
theorem DrawIsExpr_d (A : Option Addr) (c : Nat) (bs : List Int) (w : World) (hl : bs.length ≤ 1048576) (ha : ∀ x ∈ bs, 0 ≤ x ∧ x ≤ 255) (hy : BY w w.heap.size A bs) :
    Calls Try.prog 203 #[.slice A bs.length c] w fun e w' => ∃ (v : Value) (xs : List Nd), e = .returned v ∧ GotE w w' v 64 xs ∧ Below w.heap.size w w' := by
  have d0 := Lib.hid (dd_start w A c bs hl ha hy)
  clear hy
  go_enter Try.func203, Try.ntmps203
  have H := Lib.hid (anyExpr_any 4 w.heap.size (0) (w.alloc (.cells #[.slice A bs.length c, .int .i64 0, .int .u64 0] 101)) (by omega) (by decide) (by first | omega | (simp only [tN]; omega)) d0.out.cur)
  rw [show ((4 : Nat) : Int) = 4 from rfl] at H
  go_wp2_with (fail)
  refine H.out.mono ?_
  rintro e w1 ⟨xs0, A0, c0, rfl, _, hn0, hok, hcu, hch⟩
  have d1 := Lib.hid (d0.out.step hcu hch)
  have hc0 := Lib.hid (OK.capN hok)
  have r0 := Lib.hid ((OK.rsN hok).more d0.out.sz (Nat.le_refl _))
  clear hok
  clear hcu hch H d0
  go_wp2
  go_ret
  exact ⟨_, xs0, rfl, ⟨A0, c0, rfl, hn0, hc0.out, r0.out.more d1.out.low (Nat.le_refl _)⟩, d1.out.be⟩
set_option maxHeartbeats 4000000 in
theorem DrawTableOf_d (A : Option Addr) (c : Nat) (bs : List Int) (w : World) (hl : bs.length ≤ 1048576) (ha : ∀ x ∈ bs, 0 ≤ x ∧ x ≤ 255) (hy : BY w w.heap.size A bs) :
    Calls Try.prog 19 #[.slice A bs.length c] w fun e w' => ∃ (v : Value) (xs : List Nd), e = .returned v ∧ GotE w w' v 64 xs ∧ Below w.heap.size w w' := by
  have d0 := Lib.hid (dd_start w A c bs hl ha hy)
  clear hy
  go_enter Try.func19, Try.ntmps19
  have H := Lib.hid (anyExpr_any 3 w.heap.size (0) (w.alloc (.cells #[.slice A bs.length c, .int .i64 0, .int .u64 0] 101)) (by omega) (by decide) (by first | omega | (simp only [tN]; omega)) d0.out.cur)
  rw [show ((3 : Nat) : Int) = 3 from rfl] at H
  go_wp2_with (fail)
  refine H.out.mono ?_
  rintro e w1 ⟨xs0, A0, c0, rfl, _, hn0, hok, hcu, hch⟩
  have d1 := Lib.hid (d0.out.step hcu hch)
  have hc0 := Lib.hid (OK.capN hok)
  have r0 := Lib.hid ((OK.rsN hok).more d0.out.sz (Nat.le_refl _))
  clear hok
  clear hcu hch H d0
  go_wp2
  go_ret
  exact ⟨_, xs0, rfl, ⟨A0, c0, rfl, hn0, hc0.out, r0.out.more d1.out.low (Nat.le_refl _)⟩, d1.out.be⟩
set_option maxHeartbeats 4000000 in
theorem DrawShareExpr_d (A : Option Addr) (c : Nat) (bs : List Int) (w : World) (hl : bs.length ≤ 1048576) (ha : ∀ x ∈ bs, 0 ≤ x ∧ x ≤ 255) (hy : BY w w.heap.size A bs) :
    Calls Try.prog 86 #[.slice A bs.length c] w fun e w' => ∃ (v : Value) (xs : List Nd), e = .returned v ∧ GotE w w' v 64 xs ∧ Below w.heap.size w w' := by
  have H := Lib.hid (DrawIsExpr_d A c bs w hl ha hy)
  clear hy
  go_enter Try.func86, Try.ntmps86
  go_wp2_with (fail)
  refine H.out.mono ?_
  rintro e w1 ⟨v, xs, rfl, h1, h2⟩
  go_wp2
  go_ret
  exact ⟨v, xs, rfl, h1, h2⟩
set_option maxHeartbeats 4000000 in
theorem DrawCountOps_d (A : Option Addr) (c : Nat) (bs : List Int) (w : World) (hl : bs.length ≤ 1048576) (ha : ∀ x ∈ bs, 0 ≤ x ∧ x ≤ 255) (hy : BY w w.heap.size A bs) :
    Calls Try.prog 100 #[.slice A bs.length c] w fun e w' => ∃ (v : Value) (xs : List Nd), e = .returned v ∧ GotE w w' v 64 xs ∧ Below w.heap.size w w' := by
  have H := Lib.hid (DrawIsExpr_d A c bs w hl ha hy)
  clear hy
  go_enter Try.func100, Try.ntmps100
  go_wp2_with (fail)
  refine H.out.mono ?_
  rintro e w1 ⟨v, xs, rfl, h1, h2⟩
  go_wp2
  go_ret
  exact ⟨v, xs, rfl, h1, h2⟩
set_option maxHeartbeats 4000000 in
theorem DrawUsesOf_d (A : Option Addr) (c : Nat) (bs : List Int) (w : World) (hl : bs.length ≤ 1048576) (ha : ∀ x ∈ bs, 0 ≤ x ∧ x ≤ 255) (hy : BY w w.heap.size A bs) :
    Calls Try.prog 109 #[.slice A bs.length c] w fun e w' => ∃ (v : Value) (xs : List Nd), e = .returned v ∧ GotE w w' v 64 xs ∧ Below w.heap.size w w' := by
  have H := Lib.hid (DrawIsExpr_d A c bs w hl ha hy)
  clear hy
  go_enter Try.func109, Try.ntmps109
  go_wp2_with (fail)
  refine H.out.mono ?_
  rintro e w1 ⟨v, xs, rfl, h1, h2⟩
  go_wp2
  go_ret
  exact ⟨v, xs, rfl, h1, h2⟩
set_option maxHeartbeats 4000000 in
theorem DrawEvalExpr_d (A : Option Addr) (c : Nat) (bs : List Int) (w : World) (hl : bs.length ≤ 1048576) (ha : ∀ x ∈ bs, 0 ≤ x ∧ x ≤ 255) (hy : BY w w.heap.size A bs) :
    Calls Try.prog 114 #[.slice A bs.length c] w fun e w' => ∃ (v : Value) (xs : List Nd) (x y : Int), e = .returned (.tuple #[v, .int .i64 x, .int .i64 y]) ∧ GotE w w' v 64 xs ∧ (-1 ≤ x ∧ x ≤ 4611686018427387904) ∧ (-1 ≤ y ∧ y ≤ 4611686018427387904) ∧ Below w.heap.size w w' := by
  have d0 := Lib.hid (dd_start w A c bs hl ha hy)
  clear hy
  go_enter Try.func114, Try.ntmps114
  have H := Lib.hid (anyExpr_any 4 w.heap.size (0) (w.alloc (.cells #[.slice A bs.length c, .int .i64 0, .int .u64 0] 101)) (by omega) (by decide) (by first | omega | (simp only [tN]; omega)) d0.out.cur)
  rw [show ((4 : Nat) : Int) = 4 from rfl] at H
  go_wp2_with (fail)
  refine H.out.mono ?_
  rintro e w1 ⟨xs0, A0, c0, rfl, _, hn0, hok, hcu, hch⟩
  have d1 := Lib.hid (d0.out.step hcu hch)
  have hc0 := Lib.hid (OK.capN hok)
  have r0 := Lib.hid ((OK.rsN hok).more d0.out.sz (Nat.le_refl _))
  clear hok
  clear hcu hch H d0
  have H := Lib.hid (anyWord_any w.heap.size (0 + 40 * tN 4 + 100) w1 (by first | omega | (simp only [tN]; omega)) d1.out.cur)
  go_wp2_with (fail)
  refine H.out.mono ?_
  rintro e w2 ⟨x, rfl, hx, hcu, hch⟩
  replace r0 := Lib.hid (r0.out.stepE d1.out hch)
  have d2 := Lib.hid (d1.out.step hcu hch)
  clear hcu hch H d1
  have H := Lib.hid (anyWord_any w.heap.size (0 + 40 * tN 4 + 100 + 6) w2 (by first | omega | (simp only [tN]; omega)) d2.out.cur)
  go_wp2_with (fail)
  refine H.out.mono ?_
  rintro e w3 ⟨y, rfl, hy, hcu, hch⟩
  replace r0 := Lib.hid (r0.out.stepE d2.out hch)
  have d3 := Lib.hid (d2.out.step hcu hch)
  clear hcu hch H d2
  go_wp2
  exact bodyPost_ret (v := .tuple #[.slice A0 xs0.length c0, .int .i64 x, .int .i64 y]) (by simp [results, Try.results114, go_sem]) rfl ⟨_, xs0, x, y, rfl, ⟨A0, c0, rfl, hn0, hc0.out, r0.out.more d3.out.low (Nat.le_refl _)⟩, hx, hy, d3.out.be⟩
set_option maxHeartbeats 4000000 in
theorem DrawValuesOf_d (A : Option Addr) (c : Nat) (bs : List Int) (w : World) (hl : bs.length ≤ 1048576) (ha : ∀ x ∈ bs, 0 ≤ x ∧ x ≤ 255) (hy : BY w w.heap.size A bs) :
    Calls Try.prog 14 #[.slice A bs.length c] w fun e w' => ∃ (v : Value) (xs : List Nd) (x y : Int), e = .returned (.tuple #[v, .int .i64 x, .int .i64 y]) ∧ GotE w w' v 64 xs ∧ (-1 ≤ x ∧ x ≤ 4611686018427387904) ∧ (-1 ≤ y ∧ y ≤ 4611686018427387904) ∧ Below w.heap.size w w' := by
  have H := Lib.hid (DrawEvalExpr_d A c bs w hl ha hy)
  clear hy
  go_enter Try.func14, Try.ntmps14
  go_wp2_with (fail)
  refine H.out.mono ?_
  rintro e w1 ⟨v, xs, x, y, rfl, h1, h2, h3, h4⟩
  go_wp2
  exact bodyPost_ret (v := .tuple #[v, .int .i64 x, .int .i64 y]) (by simp [results, Try.results14, go_sem]) rfl ⟨v, xs, x, y, rfl, h1, h2, h3, h4⟩
set_option maxHeartbeats 4000000 in
theorem DrawSubExpr_d (A : Option Addr) (c : Nat) (bs : List Int) (w : World) (hl : bs.length ≤ 1048576) (ha : ∀ x ∈ bs, 0 ≤ x ∧ x ≤ 255) (hy : BY w w.heap.size A bs) :
    Calls Try.prog 92 #[.slice A bs.length c] w fun e w' => ∃ (v : Value) (xs : List Nd) (i : Int), e = .returned (.tuple #[v, .int .i64 i]) ∧ GotE w w' v 64 xs ∧ (-1 ≤ i ∧ i ≤ 100) ∧ Below w.heap.size w w' := by
  have d0 := Lib.hid (dd_start w A c bs hl ha hy)
  clear hy
  go_enter Try.func92, Try.ntmps92
  have H := Lib.hid (anyExpr_any 4 w.heap.size (0) (w.alloc (.cells #[.slice A bs.length c, .int .i64 0, .int .u64 0] 101)) (by omega) (by decide) (by first | omega | (simp only [tN]; omega)) d0.out.cur)
  rw [show ((4 : Nat) : Int) = 4 from rfl] at H
  go_wp2_with (fail)
  refine H.out.mono ?_
  rintro e w1 ⟨xs0, A0, c0, rfl, _, hn0, hok, hcu, hch⟩
  have d1 := Lib.hid (d0.out.step hcu hch)
  have hc0 := Lib.hid (OK.capN hok)
  have r0 := Lib.hid ((OK.rsN hok).more d0.out.sz (Nat.le_refl _))
  clear hok
  clear hcu hch H d0
  have hw1 : IntKind.i64.wrap ((xs0.length : Int) + 2) = (xs0.length : Int) + 2 := IntWalk.i64_in _ (by omega)
  have H := Lib.hid (pick_any w.heap.size (0 + 40 * tN 4 + 100) ((xs0.length : Int) + 2) w1 (by first | omega | (simp only [tN]; omega)) (by omega) d1.out.cur)
  go_wp2_with (fail)
  refine H.out.mono ?_
  rintro e w2 ⟨i, rfl, hi, hcu, hch⟩
  replace r0 := Lib.hid (r0.out.stepE d1.out hch)
  have d2 := Lib.hid (d1.out.step hcu hch)
  clear hcu hch H d1
  have hw2 : IntKind.i64.wrap (i - 1) = i - 1 := IntWalk.i64_in _ (by omega)
  go_wp2
  go_ret2
  exact ⟨_, xs0, i - 1, rfl, ⟨A0, c0, rfl, hn0, hc0.out, r0.out.more d2.out.low (Nat.le_refl _)⟩, by omega, d2.out.be⟩
set_option maxHeartbeats 4000000 in
theorem DrawPutInput_d (A : Option Addr) (c : Nat) (bs : List Int) (w : World) (hl : bs.length ≤ 1048576) (ha : ∀ x ∈ bs, 0 ≤ x ∧ x ≤ 255) (hy : BY w w.heap.size A bs) :
    Calls Try.prog 106 #[.slice A bs.length c] w fun e w' => ∃ (v u : Value) (xs ys : List Nd) (k : Int), e = .returned (.tuple #[v, .int .i64 k, u]) ∧ GotE w w' v 64 xs ∧ GotE w w' u 64 ys ∧ (-1 ≤ k ∧ k ≤ 2) ∧ Below w.heap.size w w' := by
  have d0 := Lib.hid (dd_start w A c bs hl ha hy)
  clear hy
  go_enter Try.func106, Try.ntmps106
  have H := Lib.hid (anyExpr_any 3 w.heap.size (0) (w.alloc (.cells #[.slice A bs.length c, .int .i64 0, .int .u64 0] 101)) (by omega) (by decide) (by first | omega | (simp only [tN]; omega)) d0.out.cur)
  rw [show ((3 : Nat) : Int) = 3 from rfl] at H
  go_wp2_with (fail)
  refine H.out.mono ?_
  rintro e w1 ⟨xs0, A0, c0, rfl, _, hn0, hok, hcu, hch⟩
  have d1 := Lib.hid (d0.out.step hcu hch)
  have hc0 := Lib.hid (OK.capN hok)
  have r0 := Lib.hid ((OK.rsN hok).more d0.out.sz (Nat.le_refl _))
  clear hok
  clear hcu hch H d0
  have H := Lib.hid (pick_any w.heap.size (0 + 40 * tN 3 + 100) 3 w1 (by first | omega | (simp only [tN]; omega)) (by omega) d1.out.cur)
  go_wp2_with (fail)
  refine H.out.mono ?_
  rintro e w2 ⟨i, rfl, hi, hcu, hch⟩
  replace r0 := Lib.hid (r0.out.stepE d1.out hch)
  have d2 := Lib.hid (d1.out.step hcu hch)
  clear hcu hch H d1
  have H := Lib.hid (pick_any w.heap.size (0 + 40 * tN 3 + 100 + 2) 9 w2 (by first | omega | (simp only [tN]; omega)) (by omega) d2.out.cur)
  go_wp2_with (fail)
  refine H.out.mono ?_
  rintro e w3 ⟨j, rfl, hj, hcu, hch⟩
  replace r0 := Lib.hid (r0.out.stepE d2.out hch)
  have d3 := Lib.hid (d2.out.step hcu hch)
  clear hcu hch H d2
  have hq : j.tdiv 8 = j / 8 := Int.tdiv_eq_ediv_of_nonneg (by omega)
  have hw2 : IntKind.i64.wrap (i - j / 8) = i - j / 8 := IntWalk.i64_in _ (by omega)
  have hw3 : IntKind.i64.wrap (j / 8) = j / 8 := IntWalk.i64_in _ (by omega)
  have H := Lib.hid (anyExpr_any 3 w.heap.size (0 + 40 * tN 3 + 100 + 2 + 2) w3 (by omega) (by decide) (by first | omega | (simp only [tN]; omega)) d3.out.cur)
  rw [show ((3 : Nat) : Int) = 3 from rfl] at H
  go_wp2_with (fail)
  refine H.out.mono ?_
  rintro e w4 ⟨xs1, A1, c1, rfl, _, hn1, hok, hcu, hch⟩
  replace r0 := Lib.hid (r0.out.stepE d3.out hch)
  have d4 := Lib.hid (d3.out.step hcu hch)
  have hc1 := Lib.hid (OK.capN hok)
  have r1 := Lib.hid ((OK.rsN hok).more d3.out.sz (Nat.le_refl _))
  clear hok
  clear hcu hch H d3
  go_wp2
  exact bodyPost_ret (v := .tuple #[.slice A0 xs0.length c0, .int .i64 (i - j / 8), .slice A1 xs1.length c1]) (by simp [results, Try.results106, go_sem]) rfl ⟨_, _, xs0, xs1, i - j / 8, rfl, ⟨A0, c0, rfl, hn0, hc0.out, r0.out.more d4.out.low (Nat.le_refl _)⟩, ⟨A1, c1, rfl, hn1, hc1.out, r1.out.more d4.out.low (Nat.le_refl _)⟩, by omega, d4.out.be⟩
end Go.Proofs.Ytmhdijklindipaa

namespace Go.Proofs.Ytmhdijklindipaa
open Go.RowKit
set_option linter.unusedVariables false

/-- What a function with a list of ints and a bool leaves. -/
def IntsRes (w : World) (xs : List Int) (ok : Bool) (e : Ending) (w' : World) : Prop :=
  ∃ A c, e = .returned (.tuple #[.slice A xs.length c, .bool ok]) ∧ OW w' w.heap.size w'.heap.size (.slice A xs.length c) xs ∧ Below w.heap.size w w'
def usesR (es : List Nd) : List Int := if good es = true then uses es else []
theorem usesR_len (es : List Nd) : (usesR es).length ≤ 1048576 := by
  unfold usesR
  cases h : good es
  · simp
  · have := good_len h; simp [show (uses es).length = es.length from usesAt_len es _]; omega

theorem sUsesOf_any (L B : Nat) (A : Option Addr) (c : Nat) (es : List Nd) (w : World) (hl : es.length ≤ 1048576) (hes : NS w L B A es) (hB : B ≤ w.heap.size) :
    Calls Try.prog 111 #[.slice A es.length c] w (IntsRes w (usesR es) (good es)) := by
  have H := Lib.hid (exGood_any L B A c es w hl hes hB)
  have hE := Lib.hid hes
  have hBB := Lib.hid hB
  clear hes hB
  go_enter Try.func111, Try.ntmps111
  go_wp2_with (fail)
  refine H.out.mono ?_
  rintro e w2 ⟨rfl, hb⟩
  have hbb := Lib.hid hb
  clear hb
  cases hg : good es
  · have hR2 : Hid (usesR es = []) := by simp [Hid, usesR, hg]
    go_wp2_with (fail)
    go_ret2
    refine ⟨none, 0, ?_, ?_, hbb.out⟩
    · rw [hR2.out, hg]; rfl
    · rw [hR2.out]; exact OW.nil _ _ _
  · have hR2 : Hid (usesR es = uses es) := by simp [Hid, usesR, hg]
    obtain ⟨_, hl24, hok⟩ := good_len hg
    have hul : Hid ((uses es).length ≤ 1000000) := by rw [Hid, show (uses es).length = es.length from usesAt_len es _]; omega
    have H2 := Lib.hid (exUses_any L B A c es w2 hl24 (hE.out.below hbb.out hBB.out) (Nat.le_trans hBB.out hbb.out.size) (ok_parts hok))
    clear hok
    go_wp2_with (fail)
    refine H2.out.mono ?_
    rintro e w3 ⟨g, rfl, hgg, hib, hb⟩
    have hI := Lib.hid hib
    have hb3 := Lib.hid hb
    clear hib hb
    go_wp2_with (fail)
    go_ret2
    refine ⟨some ⟨g, 0, none⟩, (uses es).length, ?_, ?_, hbb.out.trans (hb3.out.mono hbb.out.size)⟩
    · rw [hR2.out, hg]; rfl
    · rw [hR2.out]; exact OW.ofIB hI.out hul.out (Nat.le_trans hbb.out.size hgg) hI.out.lt

theorem iUsesOf_any (L B : Nat) (A : Option Addr) (c : Nat) (es : List Nd) (w : World) (hl : es.length ≤ 1048576) (hes : NS w L B A es) (hB : B ≤ w.heap.size) :
    Calls Try.prog 110 #[.slice A es.length c] w (IntsRes w (usesR es) (good es)) := by
  have H := Lib.hid (IsExpr_any L B A c es w hl hes hB)
  have hE := Lib.hid hes
  have hBB := Lib.hid hB
  clear hes hB
  go_enter Try.func110, Try.ntmps110
  go_wp2_with (fail)
  refine H.out.mono ?_
  rintro e w2 ⟨rfl, hb⟩
  have hbb := Lib.hid hb
  clear hb
  cases hg : good es
  · have hR2 : Hid (usesR es = []) := by simp [Hid, usesR, hg]
    go_wp2_with (fail)
    go_ret2
    refine ⟨none, 0, ?_, ?_, hbb.out⟩
    · rw [hR2.out, hg]; rfl
    · rw [hR2.out]; exact OW.nil _ _ _
  · have hR2 : Hid (usesR es = uses es) := by simp [Hid, usesR, hg]
    obtain ⟨_, hl24, hok⟩ := good_len hg
    have hul : Hid ((uses es).length ≤ 1000000) := by rw [Hid, show (uses es).length = es.length from usesAt_len es _]; omega
    have H2 := Lib.hid (usesOf_any L B A c es w2 hl24 (hE.out.below hbb.out hBB.out) (Nat.le_trans hBB.out hbb.out.size) (ok_parts hok))
    clear hok
    go_wp2_with (fail)
    refine H2.out.mono ?_
    rintro e w3 ⟨g, rfl, hgg, hib, hb⟩
    have hI := Lib.hid hib
    have hb3 := Lib.hid hb
    clear hib hb
    go_wp2_with (fail)
    go_ret2
    refine ⟨some ⟨g, 0, none⟩, (uses es).length, ?_, ?_, hbb.out.trans (hb3.out.mono hbb.out.size)⟩
    · rw [hR2.out, hg]; rfl
    · rw [hR2.out]; exact OW.ofIB hI.out hul.out (Nat.le_trans hbb.out.size hgg) hI.out.lt
end Go.Proofs.Ytmhdijklindipaa

namespace Go.Proofs.Ytmhdijklindipaa
open Go.RowKit
set_option linter.unusedVariables false

def valsOk (es : List Nd) (x0 x1 : Int) : Bool := good es && isW x0 && isW x1
def valsR (es : List Nd) (x0 x1 : Int) : List Int := if valsOk es x0 x1 = true then vals es x0 x1 else []
def evalR (es : List Nd) (x0 x1 : Int) : Int := if valsOk es x0 x1 = true then (vals es x0 x1).getD (es.length - 1) 0 else 0
theorem vals_len (es : List Nd) (x0 x1 : Int) : (vals es x0 x1).length = es.length := valsAt_len _ _ _ _
theorem valsR_len (es : List Nd) (x0 x1 : Int) : (valsR es x0 x1).length ≤ 1048576 := by
  unfold valsR
  cases h : valsOk es x0 x1
  · simp
  · have h1 : good es = true := by simp [valsOk] at h; exact h.1.1
    have := good_len h1; simp [vals_len]; omega
theorem valsOk_parts {es : List Nd} {x0 x1 : Int} (h : valsOk es x0 x1 = true) : good es = true ∧ isW x0 = true ∧ isW x1 = true := by
  simp [valsOk] at h; exact ⟨h.1.1, h.1.2, h.2⟩

set_option maxHeartbeats 1000000 in
theorem sValuesOf_any (L B : Nat) (A : Option Addr) (c : Nat) (es : List Nd) (x0 x1 : Int) (w : World) (hl : es.length ≤ 1048576) (hes : NS w L B A es) (hB : B ≤ w.heap.size) :
    Calls Try.prog 16 #[.slice A es.length c, .int .i64 x0, .int .i64 x1] w (IntsRes w (valsR es x0 x1) (valsOk es x0 x1)) := by
  have H := Lib.hid (exGood_any L B A c es w hl hes hB)
  have hE := Lib.hid hes
  have hBB := Lib.hid hB
  clear hes hB
  cases hv : valsOk es x0 x1
  · have hR2 : Hid (valsR es x0 x1 = []) := by simp [Hid, valsR, hv]
    have hv' : good es = false ∨ isW x0 = false ∨ isW x1 = false := by
      cases h1 : good es <;> cases h2 : isW x0 <;> cases h3 : isW x1 <;> simp [valsOk, h1, h2, h3] at hv ⊢
    clear hv
    have hfin : ∀ w2, Hid (Below w.heap.size w w2) → OW w2 w.heap.size w2.heap.size (.slice none 0 0) (valsR es x0 x1) := fun w2 _ => by rw [hR2.out]; exact OW.nil _ _ _
    have hF := Lib.hid hfin
    clear hfin
    cases hg : good es
    · go_enter Try.func16, Try.ntmps16
      go_wp2_with (fail)
      refine H.out.mono ?_
      rintro e w2 ⟨rfl, hb⟩
      have hbb := Lib.hid hb
      clear hb
      go_wp2_with (fail)
      go_ret2
      exact ⟨none, 0, by rw [hR2.out]; rfl, by have := hF.out _ hbb; rw [hR2.out] at this ⊢; exact this, hbb.out⟩
    · cases hx0 : isW x0
      · go_enter Try.func16, Try.ntmps16
        go_wp2_with (fail)
        refine H.out.mono ?_
        rintro e w2 ⟨rfl, hb⟩
        have hbb := Lib.hid hb
        clear hb
        go_wp2_with (go_at_call 118; refine (exWord_w _ _).mono ?_; rintro e w' ⟨rfl, rfl⟩)
        go_ret2
        exact ⟨none, 0, by rw [hR2.out]; rfl, by have := hF.out _ hbb; rw [hR2.out] at this ⊢; exact this, hbb.out⟩
      · have hx1 : isW x1 = false := by rcases hv' with h | h | h <;> simp_all
        clear hv'
        go_enter Try.func16, Try.ntmps16
        go_wp2_with (fail)
        refine H.out.mono ?_
        rintro e w2 ⟨rfl, hb⟩
        have hbb := Lib.hid hb
        clear hb
        go_wp2_with (go_at_call 118; refine (exWord_w _ _).mono ?_; rintro e w' ⟨rfl, rfl⟩)
        go_ret2
        exact ⟨none, 0, by rw [hR2.out]; rfl, by have := hF.out _ hbb; rw [hR2.out] at this ⊢; exact this, hbb.out⟩
  · have hR2 : Hid (valsR es x0 x1 = vals es x0 x1) := by simp [Hid, valsR, hv]
    obtain ⟨hg, hx0, hx1⟩ := valsOk_parts hv
    obtain ⟨_, hl24, hok⟩ := good_len hg
    have hV := Lib.hid (fun w2 (hbb : Below w.heap.size w w2) => exValues_any L B A c es x0 x1 w2 hl24 (hE.out.below hbb hBB.out) (Nat.le_trans hBB.out hbb.size) hok ((isW_iff _).1 hx0) ((isW_iff _).1 hx1))
    clear hok hv
    go_enter Try.func16, Try.ntmps16
    go_wp2_with (fail)
    refine H.out.mono ?_
    rintro e w2 ⟨rfl, hb⟩
    have hbb := Lib.hid hb
    clear hb
    go_wp2_with (go_at_call 118; refine (exWord_w _ _).mono ?_; rintro e w' ⟨rfl, rfl⟩)
    refine (hV.out w2 hbb.out).mono ?_
    rintro e w3 ⟨A2, c2, rfl, how, hb3⟩
    have hOW := Lib.hid how
    have hb3' := Lib.hid hb3
    clear how hb3
    go_wp2_with (fail)
    go_ret2
    exact ⟨A2, c2, by rw [hR2.out]; rfl, by rw [hR2.out]; exact hOW.out.lower hbb.out.size, hbb.out.trans (hb3'.out.mono hbb.out.size)⟩

theorem fillValues_eq (L B : Nat) (A : Option Addr) (c m cg : Nat) (es : List Nd) (g : Nat) (xs : List Int) (x0 x1 : Int) (w : World) (hm : m = xs.length) (hl : es.length ≤ 24) (hes : NS w L B A es) (hB : B ≤ g) (hxl : xs.length = es.length) (hib : IB w g 3 xs) (hW : AllW xs) (hok : okFrom es 0 = true) (h0 : 0 ≤ x0 ∧ x0 ≤ 63) (h1 : 0 ≤ x1 ∧ x1 ≤ 63) :
    Calls Try.prog 116 #[.slice (some ⟨g, 0, none⟩) m cg, .slice A es.length c, .int .i64 0, .int .i64 x0, .int .i64 x1] w (FilledIs w g (vals es x0 x1)) := by
  subst hm
  have := fillValues_any L B A c cg es g xs 0 x0 x1 w hl hes hB hxl hib hW (Nat.zero_le _) hok h0 h1
  rwa [Nat.sub_zero, fillG_vals hxl hok] at this

set_option maxHeartbeats 1000000 in
theorem iValuesOf_any (L B : Nat) (A : Option Addr) (c : Nat) (es : List Nd) (x0 x1 : Int) (w : World) (hl : es.length ≤ 1048576) (hes : NS w L B A es) (hB : B ≤ w.heap.size) :
    Calls Try.prog 15 #[.slice A es.length c, .int .i64 x0, .int .i64 x1] w (IntsRes w (valsR es x0 x1) (valsOk es x0 x1)) := by
  have H := Lib.hid (IsExpr_any L B A c es w hl hes hB)
  have hE := Lib.hid hes
  have hBB := Lib.hid hB
  clear hes hB
  cases hv : valsOk es x0 x1
  · have hR2 : Hid (valsR es x0 x1 = []) := by simp [Hid, valsR, hv]
    have hv' : good es = false ∨ isW x0 = false ∨ isW x1 = false := by
      cases h1 : good es <;> cases h2 : isW x0 <;> cases h3 : isW x1 <;> simp [valsOk, h1, h2, h3] at hv ⊢
    clear hv
    have hfin : ∀ w2, Hid (Below w.heap.size w w2) → OW w2 w.heap.size w2.heap.size (.slice none 0 0) (valsR es x0 x1) := fun w2 _ => by rw [hR2.out]; exact OW.nil _ _ _
    have hF := Lib.hid hfin
    clear hfin
    cases hg : good es
    · go_enter Try.func15, Try.ntmps15
      go_wp2_with (fail)
      refine H.out.mono ?_
      rintro e w2 ⟨rfl, hb⟩
      have hbb := Lib.hid hb
      clear hb
      go_wp2_with (fail)
      go_ret2
      exact ⟨none, 0, by rw [hR2.out]; rfl, by have := hF.out _ hbb; rw [hR2.out] at this ⊢; exact this, hbb.out⟩
    · cases hx0 : isW x0
      · go_enter Try.func15, Try.ntmps15
        go_wp2_with (fail)
        refine H.out.mono ?_
        rintro e w2 ⟨rfl, hb⟩
        have hbb := Lib.hid hb
        clear hb
        go_wp2_with (go_at_call 115; refine (isWord_any _ _).mono ?_; rintro e w' ⟨rfl, rfl⟩)
        go_ret2
        exact ⟨none, 0, by rw [hR2.out]; rfl, by have := hF.out _ hbb; rw [hR2.out] at this ⊢; exact this, hbb.out⟩
      · have hx1 : isW x1 = false := by rcases hv' with h | h | h <;> simp_all
        clear hv'
        go_enter Try.func15, Try.ntmps15
        go_wp2_with (fail)
        refine H.out.mono ?_
        rintro e w2 ⟨rfl, hb⟩
        have hbb := Lib.hid hb
        clear hb
        go_wp2_with (go_at_call 115; refine (isWord_any _ _).mono ?_; rintro e w' ⟨rfl, rfl⟩)
        go_ret2
        exact ⟨none, 0, by rw [hR2.out]; rfl, by have := hF.out _ hbb; rw [hR2.out] at this ⊢; exact this, hbb.out⟩
  · have hR2 : Hid (valsR es x0 x1 = vals es x0 x1) := by simp [Hid, valsR, hv]
    obtain ⟨hg, hx0, hx1⟩ := valsOk_parts hv
    obtain ⟨_, hl24, hok⟩ := good_len hg
    have hV := Lib.hid (fun (w2 : World) (hbb : Below w.heap.size w w2) => fillValues_eq L B A c es.length es.length es w2.heap.size (zeros es.length) x0 x1 (w2.alloc (.cells (intCells (zeros es.length)) 3)) (by simp [zeros]) hl24 ((hE.out.below hbb hBB.out).below ((Below.refl w2.heap.size w2).alloc (Nat.le_refl _) _) (Nat.le_trans hBB.out hbb.size)) (Nat.le_trans hBB.out hbb.size) (by simp [zeros]) (heap_alloc_new w2 _) (AllW.zeros _) hok ((isW_iff _).1 hx0) ((isW_iff _).1 hx1))
    have hmk := run_make_ints es.length (by omega)
    clear hok hv
    go_enter Try.func15, Try.ntmps15
    go_wp2_with (fail)
    refine H.out.mono ?_
    rintro e w2 ⟨rfl, hb⟩
    have hbb := Lib.hid hb
    clear hb
    go_wp2_with (go_at_call 115; refine (isWord_any _ _).mono ?_; rintro e w' ⟨rfl, rfl⟩)
    refine (hV.out w2 hbb.out).mono ?_
    rintro e w3 ⟨rfl, hib, hgr⟩
    have hIB := Lib.hid hib
    have hb3 := Lib.hid ((hbb.out.alloc hbb.out.size _).grown hgr (by simp; have := hbb.out.size; omega) (fun k hk => by injection hk with hk; subst hk; exact hbb.out.size))
    clear hib hgr hmk
    have hvl : (vals es x0 x1).length = es.length := vals_len _ _ _
    have hVL := Lib.hid hvl
    clear hvl
    go_wp2_with (fail)
    go_ret2
    refine ⟨some ⟨w2.heap.size, 0, none⟩, es.length, by rw [hR2.out, hVL.out]; rfl, ?_, hb3.out⟩
    rw [hR2.out]
    have := OW.ofIB (lo := w.heap.size) (hi := w3.heap.size) hIB.out (by rw [hVL.out]; omega) hbb.out.size hIB.out.lt
    rwa [hVL.out] at this ⊢
end Go.Proofs.Ytmhdijklindipaa

namespace Go.Proofs.Ytmhdijklindipaa
open Go.RowKit
set_option linter.unusedVariables false

theorem evalR_of {es : List Nd} {x0 x1 : Int} (h : valsOk es x0 x1 = true) : evalR es x0 x1 = (vals es x0 x1).getD (es.length - 1) 0 := by simp [evalR, h]

theorem exAt_any (L B : Nat) (A : Option Addr) (c : Nat) (es : List Nd) (x0 x1 : Int) (w : World) (hl : es.length ≤ 24) (hl1 : 1 ≤ es.length) (hes : NS w L B A es) (hB : B ≤ w.heap.size) (hok : okFrom es 0 = true) (h0 : 0 ≤ x0 ∧ x0 ≤ 63) (h1 : 0 ≤ x1 ∧ x1 ≤ 63) :
    Calls Try.prog 227 #[.slice A es.length c, .int .i64 x0, .int .i64 x1] w fun e w' => e = .returned (.int .i64 ((vals es x0 x1).getD (es.length - 1) 0)) ∧ Below w.heap.size w w' := by
  have H0 := exValues_any L B A c es x0 x1 w hl hes hB hok h0 h1
  obtain ⟨m, hm⟩ : ∃ m, es.length = m + 1 := ⟨es.length - 1, by omega⟩
  have hml : Hid ((vals es x0 x1).length = m + 1) := by rw [Hid, vals_len, hm]
  rw [hm] at H0
  rw [hm, Nat.add_sub_cancel]
  have H := Lib.hid H0
  have hm24 : m + 1 ≤ 24 := by omega
  clear H0 hes hok h0 h1 hl hl1 hm hB
  go_enter Try.func227, Try.ntmps227
  go_wp2_with (fail)
  refine H.out.mono ?_
  rintro e w2 ⟨V, cv, rfl, how, hb⟩
  have hbb := Lib.hid hb
  obtain ⟨V2, c2, hv2, his⟩ := how.form
  obtain ⟨rfl, rfl⟩ : V = V2 ∧ cv = c2 := by injection hv2 with a _ b; exact ⟨a, b⟩
  obtain ⟨gb, go, rfl, _, hcell⟩ := his.getD (q := m) (by rw [hml.out]; omega)
  clear how hb his hv2
  rw [hml.out]
  generalize hy : (vals es x0 x1).getD m 0 = y at *
  have HY := Lib.hid hy
  clear hy
  go_wp2
  go_ret
  exact ⟨ret_int HY.out.symm, hbb.out⟩

theorem okParts {es : List Nd} {x0 x1 : Int} (hv : valsOk es x0 x1 = false) : good es = false ∨ (good es = true ∧ isW x0 = false) ∨ (good es = true ∧ isW x0 = true ∧ isW x1 = false) := by
  cases h1 : good es <;> cases h2 : isW x0 <;> cases h3 : isW x1 <;> simp [valsOk, h1, h2, h3] at hv ⊢

set_option maxHeartbeats 1000000 in
theorem iEvalExpr_any (L B : Nat) (A : Option Addr) (c : Nat) (es : List Nd) (x0 x1 : Int) (w : World) (hl : es.length ≤ 1048576) (hes : NS w L B A es) (hB : B ≤ w.heap.size) :
    Calls Try.prog 17 #[.slice A es.length c, .int .i64 x0, .int .i64 x1] w fun e w' => e = .returned (.tuple #[.int .i64 (evalR es x0 x1), .bool (valsOk es x0 x1)]) ∧ Below w.heap.size w w' := by
  have H0 := iValuesOf_any L B A c es x0 x1 w hl hes hB
  clear hes hB
  cases hv : valsOk es x0 x1
  · have hR2 : Hid (evalR es x0 x1 = 0) := by simp [Hid, evalR, hv]
    rw [hv] at H0
    have H := Lib.hid H0
    clear H0 hv
    go_enter Try.func17, Try.ntmps17
    go_wp2_with (fail)
    refine H.out.mono ?_
    rintro e w2 ⟨V, cv, rfl, how, hb⟩
    have hbb := Lib.hid hb
    clear hb how
    go_wp2_with (fail)
    go_ret2
    exact ⟨by rw [hR2.out]; rfl, hbb.out⟩
  · have hR2 := Lib.hid (evalR_of hv)
    have hRV : valsR es x0 x1 = vals es x0 x1 := by simp [valsR, hv]
    obtain ⟨hg, _, _⟩ := valsOk_parts hv
    obtain ⟨hl1, hl24, _⟩ := good_len hg
    obtain ⟨m, hm⟩ : ∃ m, es.length = m + 1 := ⟨es.length - 1, by omega⟩
    have hml : Hid ((vals es x0 x1).length = m + 1) := by rw [Hid, vals_len, hm]
    rw [hv, hRV, hm] at H0
    rw [hm]
    have hR3 : Hid (evalR es x0 x1 = (vals es x0 x1).getD m 0) := by rw [Hid, hR2.out, hm]; rfl
    have H := Lib.hid H0
    have hm24 : m + 1 ≤ 24 := by omega
    clear H0 hv hRV hg hl1 hl24 hl hm hR2
    go_enter Try.func17, Try.ntmps17
    go_wp2_with (fail)
    refine H.out.mono ?_
    rintro e w2 ⟨V, cv, rfl, how, hb⟩
    have hbb := Lib.hid hb
    obtain ⟨V2, c2, hv2, his⟩ := how.form
    obtain ⟨rfl, rfl⟩ : V = V2 ∧ cv = c2 := by injection hv2 with a _ b; exact ⟨a, b⟩
    obtain ⟨gb, go, rfl, _, hcell⟩ := his.getD (q := m) (by rw [hml.out]; omega)
    clear how hb his hv2
    rw [hml.out]
    generalize hy : (vals es x0 x1).getD m 0 = y at *
    have HY := Lib.hid hy
    clear hy
    go_wp2_with (fail)
    go_ret2
    exact ⟨by rw [hR3.out]; rfl, hbb.out⟩
end Go.Proofs.Ytmhdijklindipaa
