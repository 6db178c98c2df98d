/- Texts of this proof, one behind the other: DT3, Q, K3, K4, TB, TC. -/
import Derived.Test.YtmhdijklindipaaZ6
import Derived.Test.YtmhdijklindipaaZ5
import Derived.WalkKit
import Derived.WalkSpells
import Derived.WalkLawsBesides
import Derived.Lib.Hide
import Derived.Test.YtmhdijklindipaaZ16
import Derived.Test.YtmhdijklindipaaLI
import Derived.Test.YtmhdijklindipaaK2
import Derived.Test.YtmhdijklindipaaZ9
import Derived.Test.YtmhdijklindipaaCG
import Derived.Outline
import Derived.Lib.JoinLaws
import Derived.Lib.AppendZeros
/- What the Draw functions of chapter 1 hand back. -/
namespace Go.Proofs.Ytmhdijklindipaa
open Go.RowKit
set_option linter.unusedVariables false
set_option maxRecDepth 100000

def GotE (w w' : World) (v : Value) (N : Nat) (xs : List Nd) : Prop := ∃ (A : Option Addr) (c : Nat), v = .slice A xs.length c ∧ xs.length ≤ N ∧ xs.length ≤ c ∧ RS Nd.enc 4 w' w.heap.size w'.heap.size A xs
theorem OK.rsN {t : TypeId} {w : World} {lo hi n c : Nat} {A : Option Addr} {xs : List Nd} (h : OK Nd.enc 4 t w lo hi (.slice A n c) xs) : RS Nd.enc 4 w lo hi A xs := by
  obtain ⟨A', c', he, hr⟩ := OK.form Nd.hk h
  injection he with h1 _ _
  subst h1; exact hr
theorem RS.stepE {w W W' : World} {L g K : Nat} {A : Option Addr} {xs : List Nd} (h : RS Nd.enc 4 W L W.heap.size A xs) (hd : Dd w L g K W) (hch : Chg g (g + 1) W W') : RS Nd.enc 4 W' L W'.heap.size A xs :=
  (h.chg hch (Nat.le_refl _) (.inr hd.gl)).more (Nat.le_refl _) hch.size
theorem RS.upE {W W' : World} {L : Nat} {A : Option Addr} {xs : List Nd} (h : RS Nd.enc 4 W L W.heap.size A xs) (hb : Below W.heap.size W W') : RS Nd.enc 4 W' L W'.heap.size A xs := (h.below hb (Nat.le_refl _)).more (Nat.le_refl _) hb.size

set_option maxHeartbeats 4000000 in
theorem DrawIsExpr_d (A : Option Addr) (c : Nat) (bs : List Int) (w : World) (hl : bs.length ≤ 1048576) (ha : ∀ x ∈ bs, 0 ≤ x ∧ x ≤ 255) (hy : BY w w.heap.size A bs) :
    Calls Try.prog 203 #[.slice A bs.length c] w fun e w' => ∃ (v : Value) (xs : List Nd), e = .returned v ∧ GotE w w' v 64 xs ∧ Below w.heap.size w w' := by
  have d0 := Lib.hid (dd_start w A c bs hl ha hy)
  clear hy
  go_enter Try.func203, Try.ntmps203
  have H := Lib.hid (anyExpr_any 4 w.heap.size (0) (w.alloc (.cells #[.slice A bs.length c, .int .i64 0, .int .u64 0] 101)) (by omega) (by decide) (by first | omega | (simp only [tN]; omega)) d0.out.cur)
  rw [show ((4 : Nat) : Int) = 4 from rfl] at H
  go_wp2_with (fail)
  refine H.out.mono ?_
  rintro e w1 ⟨xs0, A0, c0, rfl, _, hn0, hok, hcu, hch⟩
  have d1 := Lib.hid (d0.out.step hcu hch)
  have hc0 := Lib.hid (OK.capN hok)
  have r0 := Lib.hid ((OK.rsN hok).more d0.out.sz (Nat.le_refl _))
  clear hok
  clear hcu hch H d0
  go_wp2
  go_ret
  exact ⟨_, xs0, rfl, ⟨A0, c0, rfl, hn0, hc0.out, r0.out.more d1.out.low (Nat.le_refl _)⟩, d1.out.be⟩
set_option maxHeartbeats 4000000 in
theorem DrawTableOf_d (A : Option Addr) (c : Nat) (bs : List Int) (w : World) (hl : bs.length ≤ 1048576) (ha : ∀ x ∈ bs, 0 ≤ x ∧ x ≤ 255) (hy : BY w w.heap.size A bs) :
    Calls Try.prog 19 #[.slice A bs.length c] w fun e w' => ∃ (v : Value) (xs : List Nd), e = .returned v ∧ GotE w w' v 64 xs ∧ Below w.heap.size w w' := by
  have d0 := Lib.hid (dd_start w A c bs hl ha hy)
  clear hy
  go_enter Try.func19, Try.ntmps19
  have H := Lib.hid (anyExpr_any 3 w.heap.size (0) (w.alloc (.cells #[.slice A bs.length c, .int .i64 0, .int .u64 0] 101)) (by omega) (by decide) (by first | omega | (simp only [tN]; omega)) d0.out.cur)
  rw [show ((3 : Nat) : Int) = 3 from rfl] at H
  go_wp2_with (fail)
  refine H.out.mono ?_
  rintro e w1 ⟨xs0, A0, c0, rfl, _, hn0, hok, hcu, hch⟩
  have d1 := Lib.hid (d0.out.step hcu hch)
  have hc0 := Lib.hid (OK.capN hok)
  have r0 := Lib.hid ((OK.rsN hok).more d0.out.sz (Nat.le_refl _))
  clear hok
  clear hcu hch H d0
  go_wp2
  go_ret
  exact ⟨_, xs0, rfl, ⟨A0, c0, rfl, hn0, hc0.out, r0.out.more d1.out.low (Nat.le_refl _)⟩, d1.out.be⟩
set_option maxHeartbeats 4000000 in
theorem DrawShareExpr_d (A : Option Addr) (c : Nat) (bs : List Int) (w : World) (hl : bs.length ≤ 1048576) (ha : ∀ x ∈ bs, 0 ≤ x ∧ x ≤ 255) (hy : BY w w.heap.size A bs) :
    Calls Try.prog 86 #[.slice A bs.length c] w fun e w' => ∃ (v : Value) (xs : List Nd), e = .returned v ∧ GotE w w' v 64 xs ∧ Below w.heap.size w w' := by
  have H := Lib.hid (DrawIsExpr_d A c bs w hl ha hy)
  clear hy
  go_enter Try.func86, Try.ntmps86
  go_wp2_with (fail)
  refine H.out.mono ?_
  rintro e w1 ⟨v, xs, rfl, h1, h2⟩
  go_wp2
  go_ret
  exact ⟨v, xs, rfl, h1, h2⟩
set_option maxHeartbeats 4000000 in
theorem DrawCountOps_d (A : Option Addr) (c : Nat) (bs : List Int) (w : World) (hl : bs.length ≤ 1048576) (ha : ∀ x ∈ bs, 0 ≤ x ∧ x ≤ 255) (hy : BY w w.heap.size A bs) :
    Calls Try.prog 100 #[.slice A bs.length c] w fun e w' => ∃ (v : Value) (xs : List Nd), e = .returned v ∧ GotE w w' v 64 xs ∧ Below w.heap.size w w' := by
  have H := Lib.hid (DrawIsExpr_d A c bs w hl ha hy)
  clear hy
  go_enter Try.func100, Try.ntmps100
  go_wp2_with (fail)
  refine H.out.mono ?_
  rintro e w1 ⟨v, xs, rfl, h1, h2⟩
  go_wp2
  go_ret
  exact ⟨v, xs, rfl, h1, h2⟩
set_option maxHeartbeats 4000000 in
theorem DrawUsesOf_d (A : Option Addr) (c : Nat) (bs : List Int) (w : World) (hl : bs.length ≤ 1048576) (ha : ∀ x ∈ bs, 0 ≤ x ∧ x ≤ 255) (hy : BY w w.heap.size A bs) :
    Calls Try.prog 109 #[.slice A bs.length c] w fun e w' => ∃ (v : Value) (xs : List Nd), e = .returned v ∧ GotE w w' v 64 xs ∧ Below w.heap.size w w' := by
  have H := Lib.hid (DrawIsExpr_d A c bs w hl ha hy)
  clear hy
  go_enter Try.func109, Try.ntmps109
  go_wp2_with (fail)
  refine H.out.mono ?_
  rintro e w1 ⟨v, xs, rfl, h1, h2⟩
  go_wp2
  go_ret
  exact ⟨v, xs, rfl, h1, h2⟩
set_option maxHeartbeats 4000000 in
theorem DrawEvalExpr_d (A : Option Addr) (c : Nat) (bs : List Int) (w : World) (hl : bs.length ≤ 1048576) (ha : ∀ x ∈ bs, 0 ≤ x ∧ x ≤ 255) (hy : BY w w.heap.size A bs) :
    Calls Try.prog 114 #[.slice A bs.length c] w fun e w' => ∃ (v : Value) (xs : List Nd) (x y : Int), e = .returned (.tuple #[v, .int .i64 x, .int .i64 y]) ∧ GotE w w' v 64 xs ∧ (-1 ≤ x ∧ x ≤ 4611686018427387904) ∧ (-1 ≤ y ∧ y ≤ 4611686018427387904) ∧ Below w.heap.size w w' := by
  have d0 := Lib.hid (dd_start w A c bs hl ha hy)
  clear hy
  go_enter Try.func114, Try.ntmps114
  have H := Lib.hid (anyExpr_any 4 w.heap.size (0) (w.alloc (.cells #[.slice A bs.length c, .int .i64 0, .int .u64 0] 101)) (by omega) (by decide) (by first | omega | (simp only [tN]; omega)) d0.out.cur)
  rw [show ((4 : Nat) : Int) = 4 from rfl] at H
  go_wp2_with (fail)
  refine H.out.mono ?_
  rintro e w1 ⟨xs0, A0, c0, rfl, _, hn0, hok, hcu, hch⟩
  have d1 := Lib.hid (d0.out.step hcu hch)
  have hc0 := Lib.hid (OK.capN hok)
  have r0 := Lib.hid ((OK.rsN hok).more d0.out.sz (Nat.le_refl _))
  clear hok
  clear hcu hch H d0
  have H := Lib.hid (anyWord_any w.heap.size (0 + 40 * tN 4 + 100) w1 (by first | omega | (simp only [tN]; omega)) d1.out.cur)
  go_wp2_with (fail)
  refine H.out.mono ?_
  rintro e w2 ⟨x, rfl, hx, hcu, hch⟩
  replace r0 := Lib.hid (r0.out.stepE d1.out hch)
  have d2 := Lib.hid (d1.out.step hcu hch)
  clear hcu hch H d1
  have H := Lib.hid (anyWord_any w.heap.size (0 + 40 * tN 4 + 100 + 6) w2 (by first | omega | (simp only [tN]; omega)) d2.out.cur)
  go_wp2_with (fail)
  refine H.out.mono ?_
  rintro e w3 ⟨y, rfl, hy, hcu, hch⟩
  replace r0 := Lib.hid (r0.out.stepE d2.out hch)
  have d3 := Lib.hid (d2.out.step hcu hch)
  clear hcu hch H d2
  go_wp2
  exact bodyPost_ret (v := .tuple #[.slice A0 xs0.length c0, .int .i64 x, .int .i64 y]) (by simp [results, Try.results114, go_sem]) rfl ⟨_, xs0, x, y, rfl, ⟨A0, c0, rfl, hn0, hc0.out, r0.out.more d3.out.low (Nat.le_refl _)⟩, hx, hy, d3.out.be⟩
set_option maxHeartbeats 4000000 in
theorem DrawValuesOf_d (A : Option Addr) (c : Nat) (bs : List Int) (w : World) (hl : bs.length ≤ 1048576) (ha : ∀ x ∈ bs, 0 ≤ x ∧ x ≤ 255) (hy : BY w w.heap.size A bs) :
    Calls Try.prog 14 #[.slice A bs.length c] w fun e w' => ∃ (v : Value) (xs : List Nd) (x y : Int), e = .returned (.tuple #[v, .int .i64 x, .int .i64 y]) ∧ GotE w w' v 64 xs ∧ (-1 ≤ x ∧ x ≤ 4611686018427387904) ∧ (-1 ≤ y ∧ y ≤ 4611686018427387904) ∧ Below w.heap.size w w' := by
  have H := Lib.hid (DrawEvalExpr_d A c bs w hl ha hy)
  clear hy
  go_enter Try.func14, Try.ntmps14
  go_wp2_with (fail)
  refine H.out.mono ?_
  rintro e w1 ⟨v, xs, x, y, rfl, h1, h2, h3, h4⟩
  go_wp2
  exact bodyPost_ret (v := .tuple #[v, .int .i64 x, .int .i64 y]) (by simp [results, Try.results14, go_sem]) rfl ⟨v, xs, x, y, rfl, h1, h2, h3, h4⟩
set_option maxHeartbeats 4000000 in
theorem DrawSubExpr_d (A : Option Addr) (c : Nat) (bs : List Int) (w : World) (hl : bs.length ≤ 1048576) (ha : ∀ x ∈ bs, 0 ≤ x ∧ x ≤ 255) (hy : BY w w.heap.size A bs) :
    Calls Try.prog 92 #[.slice A bs.length c] w fun e w' => ∃ (v : Value) (xs : List Nd) (i : Int), e = .returned (.tuple #[v, .int .i64 i]) ∧ GotE w w' v 64 xs ∧ (-1 ≤ i ∧ i ≤ 100) ∧ Below w.heap.size w w' := by
  have d0 := Lib.hid (dd_start w A c bs hl ha hy)
  clear hy
  go_enter Try.func92, Try.ntmps92
  have H := Lib.hid (anyExpr_any 4 w.heap.size (0) (w.alloc (.cells #[.slice A bs.length c, .int .i64 0, .int .u64 0] 101)) (by omega) (by decide) (by first | omega | (simp only [tN]; omega)) d0.out.cur)
  rw [show ((4 : Nat) : Int) = 4 from rfl] at H
  go_wp2_with (fail)
  refine H.out.mono ?_
  rintro e w1 ⟨xs0, A0, c0, rfl, _, hn0, hok, hcu, hch⟩
  have d1 := Lib.hid (d0.out.step hcu hch)
  have hc0 := Lib.hid (OK.capN hok)
  have r0 := Lib.hid ((OK.rsN hok).more d0.out.sz (Nat.le_refl _))
  clear hok
  clear hcu hch H d0
  have hw1 : IntKind.i64.wrap ((xs0.length : Int) + 2) = (xs0.length : Int) + 2 := IntWalk.i64_in _ (by omega)
  have H := Lib.hid (pick_any w.heap.size (0 + 40 * tN 4 + 100) ((xs0.length : Int) + 2) w1 (by first | omega | (simp only [tN]; omega)) (by omega) d1.out.cur)
  go_wp2_with (fail)
  refine H.out.mono ?_
  rintro e w2 ⟨i, rfl, hi, hcu, hch⟩
  replace r0 := Lib.hid (r0.out.stepE d1.out hch)
  have d2 := Lib.hid (d1.out.step hcu hch)
  clear hcu hch H d1
  have hw2 : IntKind.i64.wrap (i - 1) = i - 1 := IntWalk.i64_in _ (by omega)
  go_wp2
  go_ret2
  exact ⟨_, xs0, i - 1, rfl, ⟨A0, c0, rfl, hn0, hc0.out, r0.out.more d2.out.low (Nat.le_refl _)⟩, by omega, d2.out.be⟩
set_option maxHeartbeats 4000000 in
theorem DrawPutInput_d (A : Option Addr) (c : Nat) (bs : List Int) (w : World) (hl : bs.length ≤ 1048576) (ha : ∀ x ∈ bs, 0 ≤ x ∧ x ≤ 255) (hy : BY w w.heap.size A bs) :
    Calls Try.prog 106 #[.slice A bs.length c] w fun e w' => ∃ (v u : Value) (xs ys : List Nd) (k : Int), e = .returned (.tuple #[v, .int .i64 k, u]) ∧ GotE w w' v 64 xs ∧ GotE w w' u 64 ys ∧ (-1 ≤ k ∧ k ≤ 2) ∧ Below w.heap.size w w' := by
  have d0 := Lib.hid (dd_start w A c bs hl ha hy)
  clear hy
  go_enter Try.func106, Try.ntmps106
  have H := Lib.hid (anyExpr_any 3 w.heap.size (0) (w.alloc (.cells #[.slice A bs.length c, .int .i64 0, .int .u64 0] 101)) (by omega) (by decide) (by first | omega | (simp only [tN]; omega)) d0.out.cur)
  rw [show ((3 : Nat) : Int) = 3 from rfl] at H
  go_wp2_with (fail)
  refine H.out.mono ?_
  rintro e w1 ⟨xs0, A0, c0, rfl, _, hn0, hok, hcu, hch⟩
  have d1 := Lib.hid (d0.out.step hcu hch)
  have hc0 := Lib.hid (OK.capN hok)
  have r0 := Lib.hid ((OK.rsN hok).more d0.out.sz (Nat.le_refl _))
  clear hok
  clear hcu hch H d0
  have H := Lib.hid (pick_any w.heap.size (0 + 40 * tN 3 + 100) 3 w1 (by first | omega | (simp only [tN]; omega)) (by omega) d1.out.cur)
  go_wp2_with (fail)
  refine H.out.mono ?_
  rintro e w2 ⟨i, rfl, hi, hcu, hch⟩
  replace r0 := Lib.hid (r0.out.stepE d1.out hch)
  have d2 := Lib.hid (d1.out.step hcu hch)
  clear hcu hch H d1
  have H := Lib.hid (pick_any w.heap.size (0 + 40 * tN 3 + 100 + 2) 9 w2 (by first | omega | (simp only [tN]; omega)) (by omega) d2.out.cur)
  go_wp2_with (fail)
  refine H.out.mono ?_
  rintro e w3 ⟨j, rfl, hj, hcu, hch⟩
  replace r0 := Lib.hid (r0.out.stepE d2.out hch)
  have d3 := Lib.hid (d2.out.step hcu hch)
  clear hcu hch H d2
  have hq : j.tdiv 8 = j / 8 := Int.tdiv_eq_ediv_of_nonneg (by omega)
  have hw2 : IntKind.i64.wrap (i - j / 8) = i - j / 8 := IntWalk.i64_in _ (by omega)
  have hw3 : IntKind.i64.wrap (j / 8) = j / 8 := IntWalk.i64_in _ (by omega)
  have H := Lib.hid (anyExpr_any 3 w.heap.size (0 + 40 * tN 3 + 100 + 2 + 2) w3 (by omega) (by decide) (by first | omega | (simp only [tN]; omega)) d3.out.cur)
  rw [show ((3 : Nat) : Int) = 3 from rfl] at H
  go_wp2_with (fail)
  refine H.out.mono ?_
  rintro e w4 ⟨xs1, A1, c1, rfl, _, hn1, hok, hcu, hch⟩
  replace r0 := Lib.hid (r0.out.stepE d3.out hch)
  have d4 := Lib.hid (d3.out.step hcu hch)
  have hc1 := Lib.hid (OK.capN hok)
  have r1 := Lib.hid ((OK.rsN hok).more d3.out.sz (Nat.le_refl _))
  clear hok
  clear hcu hch H d3
  go_wp2
  exact bodyPost_ret (v := .tuple #[.slice A0 xs0.length c0, .int .i64 (i - j / 8), .slice A1 xs1.length c1]) (by simp [results, Try.results106, go_sem]) rfl ⟨_, _, xs0, xs1, i - j / 8, rfl, ⟨A0, c0, rfl, hn0, hc0.out, r0.out.more d4.out.low (Nat.le_refl _)⟩, ⟨A1, c1, rfl, hn1, hc1.out, r1.out.more d4.out.low (Nat.le_refl _)⟩, by omega, d4.out.be⟩
end Go.Proofs.Ytmhdijklindipaa

namespace Go.Proofs.Ytmhdijklindipaa
open Go.RowKit
set_option linter.unusedVariables false

/-- What a function with a list of ints and a bool leaves. -/
def IntsRes (w : World) (xs : List Int) (ok : Bool) (e : Ending) (w' : World) : Prop :=
  ∃ A c, e = .returned (.tuple #[.slice A xs.length c, .bool ok]) ∧ OW w' w.heap.size w'.heap.size (.slice A xs.length c) xs ∧ Below w.heap.size w w'
def usesR (es : List Nd) : List Int := if good es = true then uses es else []
theorem usesR_len (es : List Nd) : (usesR es).length ≤ 1048576 := by
  unfold usesR
  cases h : good es
  · simp
  · have := good_len h; simp [show (uses es).length = es.length from usesAt_len es _]; omega

theorem sUsesOf_any (L B : Nat) (A : Option Addr) (c : Nat) (es : List Nd) (w : World) (hl : es.length ≤ 1048576) (hes : NS w L B A es) (hB : B ≤ w.heap.size) :
    Calls Try.prog 111 #[.slice A es.length c] w (IntsRes w (usesR es) (good es)) := by
  have H := Lib.hid (exGood_any L B A c es w hl hes hB)
  have hE := Lib.hid hes
  have hBB := Lib.hid hB
  clear hes hB
  go_enter Try.func111, Try.ntmps111
  go_wp2_with (fail)
  refine H.out.mono ?_
  rintro e w2 ⟨rfl, hb⟩
  have hbb := Lib.hid hb
  clear hb
  cases hg : good es
  · have hR2 : Hid (usesR es = []) := by simp [Hid, usesR, hg]
    go_wp2_with (fail)
    go_ret2
    refine ⟨none, 0, ?_, ?_, hbb.out⟩
    · rw [hR2.out, hg]; rfl
    · rw [hR2.out]; exact OW.nil _ _ _
  · have hR2 : Hid (usesR es = uses es) := by simp [Hid, usesR, hg]
    obtain ⟨_, hl24, hok⟩ := good_len hg
    have hul : Hid ((uses es).length ≤ 1000000) := by rw [Hid, show (uses es).length = es.length from usesAt_len es _]; omega
    have H2 := Lib.hid (exUses_any L B A c es w2 hl24 (hE.out.below hbb.out hBB.out) (Nat.le_trans hBB.out hbb.out.size) (ok_parts hok))
    clear hok
    go_wp2_with (fail)
    refine H2.out.mono ?_
    rintro e w3 ⟨g, rfl, hgg, hib, hb⟩
    have hI := Lib.hid hib
    have hb3 := Lib.hid hb
    clear hib hb
    go_wp2_with (fail)
    go_ret2
    refine ⟨some ⟨g, 0, none⟩, (uses es).length, ?_, ?_, hbb.out.trans (hb3.out.mono hbb.out.size)⟩
    · rw [hR2.out, hg]; rfl
    · rw [hR2.out]; exact OW.ofIB hI.out hul.out (Nat.le_trans hbb.out.size hgg) hI.out.lt

theorem iUsesOf_any (L B : Nat) (A : Option Addr) (c : Nat) (es : List Nd) (w : World) (hl : es.length ≤ 1048576) (hes : NS w L B A es) (hB : B ≤ w.heap.size) :
    Calls Try.prog 110 #[.slice A es.length c] w (IntsRes w (usesR es) (good es)) := by
  have H := Lib.hid (IsExpr_any L B A c es w hl hes hB)
  have hE := Lib.hid hes
  have hBB := Lib.hid hB
  clear hes hB
  go_enter Try.func110, Try.ntmps110
  go_wp2_with (fail)
  refine H.out.mono ?_
  rintro e w2 ⟨rfl, hb⟩
  have hbb := Lib.hid hb
  clear hb
  cases hg : good es
  · have hR2 : Hid (usesR es = []) := by simp [Hid, usesR, hg]
    go_wp2_with (fail)
    go_ret2
    refine ⟨none, 0, ?_, ?_, hbb.out⟩
    · rw [hR2.out, hg]; rfl
    · rw [hR2.out]; exact OW.nil _ _ _
  · have hR2 : Hid (usesR es = uses es) := by simp [Hid, usesR, hg]
    obtain ⟨_, hl24, hok⟩ := good_len hg
    have hul : Hid ((uses es).length ≤ 1000000) := by rw [Hid, show (uses es).length = es.length from usesAt_len es _]; omega
    have H2 := Lib.hid (usesOf_any L B A c es w2 hl24 (hE.out.below hbb.out hBB.out) (Nat.le_trans hBB.out hbb.out.size) (ok_parts hok))
    clear hok
    go_wp2_with (fail)
    refine H2.out.mono ?_
    rintro e w3 ⟨g, rfl, hgg, hib, hb⟩
    have hI := Lib.hid hib
    have hb3 := Lib.hid hb
    clear hib hb
    go_wp2_with (fail)
    go_ret2
    refine ⟨some ⟨g, 0, none⟩, (uses es).length, ?_, ?_, hbb.out.trans (hb3.out.mono hbb.out.size)⟩
    · rw [hR2.out, hg]; rfl
    · rw [hR2.out]; exact OW.ofIB hI.out hul.out (Nat.le_trans hbb.out.size hgg) hI.out.lt
end Go.Proofs.Ytmhdijklindipaa

namespace Go.Proofs.Ytmhdijklindipaa
open Go.RowKit
set_option linter.unusedVariables false

def valsOk (es : List Nd) (x0 x1 : Int) : Bool := good es && isW x0 && isW x1
def valsR (es : List Nd) (x0 x1 : Int) : List Int := if valsOk es x0 x1 = true then vals es x0 x1 else []
def evalR (es : List Nd) (x0 x1 : Int) : Int := if valsOk es x0 x1 = true then (vals es x0 x1).getD (es.length - 1) 0 else 0
theorem vals_len (es : List Nd) (x0 x1 : Int) : (vals es x0 x1).length = es.length := valsAt_len _ _ _ _
theorem valsR_len (es : List Nd) (x0 x1 : Int) : (valsR es x0 x1).length ≤ 1048576 := by
  unfold valsR
  cases h : valsOk es x0 x1
  · simp
  · have h1 : good es = true := by simp [valsOk] at h; exact h.1.1
    have := good_len h1; simp [vals_len]; omega
theorem valsOk_parts {es : List Nd} {x0 x1 : Int} (h : valsOk es x0 x1 = true) : good es = true ∧ isW x0 = true ∧ isW x1 = true := by
  simp [valsOk] at h; exact ⟨h.1.1, h.1.2, h.2⟩

set_option maxHeartbeats 1000000 in
theorem sValuesOf_any (L B : Nat) (A : Option Addr) (c : Nat) (es : List Nd) (x0 x1 : Int) (w : World) (hl : es.length ≤ 1048576) (hes : NS w L B A es) (hB : B ≤ w.heap.size) :
    Calls Try.prog 16 #[.slice A es.length c, .int .i64 x0, .int .i64 x1] w (IntsRes w (valsR es x0 x1) (valsOk es x0 x1)) := by
  have H := Lib.hid (exGood_any L B A c es w hl hes hB)
  have hE := Lib.hid hes
  have hBB := Lib.hid hB
  clear hes hB
  cases hv : valsOk es x0 x1
  · have hR2 : Hid (valsR es x0 x1 = []) := by simp [Hid, valsR, hv]
    have hv' : good es = false ∨ isW x0 = false ∨ isW x1 = false := by
      cases h1 : good es <;> cases h2 : isW x0 <;> cases h3 : isW x1 <;> simp [valsOk, h1, h2, h3] at hv ⊢
    clear hv
    have hfin : ∀ w2, Hid (Below w.heap.size w w2) → OW w2 w.heap.size w2.heap.size (.slice none 0 0) (valsR es x0 x1) := fun w2 _ => by rw [hR2.out]; exact OW.nil _ _ _
    have hF := Lib.hid hfin
    clear hfin
    cases hg : good es
    · go_enter Try.func16, Try.ntmps16
      go_wp2_with (fail)
      refine H.out.mono ?_
      rintro e w2 ⟨rfl, hb⟩
      have hbb := Lib.hid hb
      clear hb
      go_wp2_with (fail)
      go_ret2
      exact ⟨none, 0, by rw [hR2.out]; rfl, by have := hF.out _ hbb; rw [hR2.out] at this ⊢; exact this, hbb.out⟩
    · cases hx0 : isW x0
      · go_enter Try.func16, Try.ntmps16
        go_wp2_with (fail)
        refine H.out.mono ?_
        rintro e w2 ⟨rfl, hb⟩
        have hbb := Lib.hid hb
        clear hb
        go_wp2_with (go_at_call 118; refine (exWord_w _ _).mono ?_; rintro e w' ⟨rfl, rfl⟩)
        go_ret2
        exact ⟨none, 0, by rw [hR2.out]; rfl, by have := hF.out _ hbb; rw [hR2.out] at this ⊢; exact this, hbb.out⟩
      · have hx1 : isW x1 = false := by rcases hv' with h | h | h <;> simp_all
        clear hv'
        go_enter Try.func16, Try.ntmps16
        go_wp2_with (fail)
        refine H.out.mono ?_
        rintro e w2 ⟨rfl, hb⟩
        have hbb := Lib.hid hb
        clear hb
        go_wp2_with (go_at_call 118; refine (exWord_w _ _).mono ?_; rintro e w' ⟨rfl, rfl⟩)
        go_ret2
        exact ⟨none, 0, by rw [hR2.out]; rfl, by have := hF.out _ hbb; rw [hR2.out] at this ⊢; exact this, hbb.out⟩
  · have hR2 : Hid (valsR es x0 x1 = vals es x0 x1) := by simp [Hid, valsR, hv]
    obtain ⟨hg, hx0, hx1⟩ := valsOk_parts hv
    obtain ⟨_, hl24, hok⟩ := good_len hg
    have hV := Lib.hid (fun w2 (hbb : Below w.heap.size w w2) => exValues_any L B A c es x0 x1 w2 hl24 (hE.out.below hbb hBB.out) (Nat.le_trans hBB.out hbb.size) hok ((isW_iff _).1 hx0) ((isW_iff _).1 hx1))
    clear hok hv
    go_enter Try.func16, Try.ntmps16
    go_wp2_with (fail)
    refine H.out.mono ?_
    rintro e w2 ⟨rfl, hb⟩
    have hbb := Lib.hid hb
    clear hb
    go_wp2_with (go_at_call 118; refine (exWord_w _ _).mono ?_; rintro e w' ⟨rfl, rfl⟩)
    refine (hV.out w2 hbb.out).mono ?_
    rintro e w3 ⟨A2, c2, rfl, how, hb3⟩
    have hOW := Lib.hid how
    have hb3' := Lib.hid hb3
    clear how hb3
    go_wp2_with (fail)
    go_ret2
    exact ⟨A2, c2, by rw [hR2.out]; rfl, by rw [hR2.out]; exact hOW.out.lower hbb.out.size, hbb.out.trans (hb3'.out.mono hbb.out.size)⟩

theorem fillValues_eq (L B : Nat) (A : Option Addr) (c m cg : Nat) (es : List Nd) (g : Nat) (xs : List Int) (x0 x1 : Int) (w : World) (hm : m = xs.length) (hl : es.length ≤ 24) (hes : NS w L B A es) (hB : B ≤ g) (hxl : xs.length = es.length) (hib : IB w g 3 xs) (hW : AllW xs) (hok : okFrom es 0 = true) (h0 : 0 ≤ x0 ∧ x0 ≤ 63) (h1 : 0 ≤ x1 ∧ x1 ≤ 63) :
    Calls Try.prog 116 #[.slice (some ⟨g, 0, none⟩) m cg, .slice A es.length c, .int .i64 0, .int .i64 x0, .int .i64 x1] w (FilledIs w g (vals es x0 x1)) := by
  subst hm
  have := fillValues_any L B A c cg es g xs 0 x0 x1 w hl hes hB hxl hib hW (Nat.zero_le _) hok h0 h1
  rwa [Nat.sub_zero, fillG_vals hxl hok] at this

set_option maxHeartbeats 1000000 in
theorem iValuesOf_any (L B : Nat) (A : Option Addr) (c : Nat) (es : List Nd) (x0 x1 : Int) (w : World) (hl : es.length ≤ 1048576) (hes : NS w L B A es) (hB : B ≤ w.heap.size) :
    Calls Try.prog 15 #[.slice A es.length c, .int .i64 x0, .int .i64 x1] w (IntsRes w (valsR es x0 x1) (valsOk es x0 x1)) := by
  have H := Lib.hid (IsExpr_any L B A c es w hl hes hB)
  have hE := Lib.hid hes
  have hBB := Lib.hid hB
  clear hes hB
  cases hv : valsOk es x0 x1
  · have hR2 : Hid (valsR es x0 x1 = []) := by simp [Hid, valsR, hv]
    have hv' : good es = false ∨ isW x0 = false ∨ isW x1 = false := by
      cases h1 : good es <;> cases h2 : isW x0 <;> cases h3 : isW x1 <;> simp [valsOk, h1, h2, h3] at hv ⊢
    clear hv
    have hfin : ∀ w2, Hid (Below w.heap.size w w2) → OW w2 w.heap.size w2.heap.size (.slice none 0 0) (valsR es x0 x1) := fun w2 _ => by rw [hR2.out]; exact OW.nil _ _ _
    have hF := Lib.hid hfin
    clear hfin
    cases hg : good es
    · go_enter Try.func15, Try.ntmps15
      go_wp2_with (fail)
      refine H.out.mono ?_
      rintro e w2 ⟨rfl, hb⟩
      have hbb := Lib.hid hb
      clear hb
      go_wp2_with (fail)
      go_ret2
      exact ⟨none, 0, by rw [hR2.out]; rfl, by have := hF.out _ hbb; rw [hR2.out] at this ⊢; exact this, hbb.out⟩
    · cases hx0 : isW x0
      · go_enter Try.func15, Try.ntmps15
        go_wp2_with (fail)
        refine H.out.mono ?_
        rintro e w2 ⟨rfl, hb⟩
        have hbb := Lib.hid hb
        clear hb
        go_wp2_with (go_at_call 115; refine (isWord_any _ _).mono ?_; rintro e w' ⟨rfl, rfl⟩)
        go_ret2
        exact ⟨none, 0, by rw [hR2.out]; rfl, by have := hF.out _ hbb; rw [hR2.out] at this ⊢; exact this, hbb.out⟩
      · have hx1 : isW x1 = false := by rcases hv' with h | h | h <;> simp_all
        clear hv'
        go_enter Try.func15, Try.ntmps15
        go_wp2_with (fail)
        refine H.out.mono ?_
        rintro e w2 ⟨rfl, hb⟩
        have hbb := Lib.hid hb
        clear hb
        go_wp2_with (go_at_call 115; refine (isWord_any _ _).mono ?_; rintro e w' ⟨rfl, rfl⟩)
        go_ret2
        exact ⟨none, 0, by rw [hR2.out]; rfl, by have := hF.out _ hbb; rw [hR2.out] at this ⊢; exact this, hbb.out⟩
  · have hR2 : Hid (valsR es x0 x1 = vals es x0 x1) := by simp [Hid, valsR, hv]
    obtain ⟨hg, hx0, hx1⟩ := valsOk_parts hv
    obtain ⟨_, hl24, hok⟩ := good_len hg
    have hV := Lib.hid (fun (w2 : World) (hbb : Below w.heap.size w w2) => fillValues_eq L B A c es.length es.length es w2.heap.size (zeros es.length) x0 x1 (w2.alloc (.cells (intCells (zeros es.length)) 3)) (by simp [zeros]) hl24 ((hE.out.below hbb hBB.out).below ((Below.refl w2.heap.size w2).alloc (Nat.le_refl _) _) (Nat.le_trans hBB.out hbb.size)) (Nat.le_trans hBB.out hbb.size) (by simp [zeros]) (heap_alloc_new w2 _) (AllW.zeros _) hok ((isW_iff _).1 hx0) ((isW_iff _).1 hx1))
    have hmk := run_make_ints es.length (by omega)
    clear hok hv
    go_enter Try.func15, Try.ntmps15
    go_wp2_with (fail)
    refine H.out.mono ?_
    rintro e w2 ⟨rfl, hb⟩
    have hbb := Lib.hid hb
    clear hb
    go_wp2_with (go_at_call 115; refine (isWord_any _ _).mono ?_; rintro e w' ⟨rfl, rfl⟩)
    refine (hV.out w2 hbb.out).mono ?_
    rintro e w3 ⟨rfl, hib, hgr⟩
    have hIB := Lib.hid hib
    have hb3 := Lib.hid ((hbb.out.alloc hbb.out.size _).grown hgr (by simp; have := hbb.out.size; omega) (fun k hk => by injection hk with hk; subst hk; exact hbb.out.size))
    clear hib hgr hmk
    have hvl : (vals es x0 x1).length = es.length := vals_len _ _ _
    have hVL := Lib.hid hvl
    clear hvl
    go_wp2_with (fail)
    go_ret2
    refine ⟨some ⟨w2.heap.size, 0, none⟩, es.length, by rw [hR2.out, hVL.out]; rfl, ?_, hb3.out⟩
    rw [hR2.out]
    have := OW.ofIB (lo := w.heap.size) (hi := w3.heap.size) hIB.out (by rw [hVL.out]; omega) hbb.out.size hIB.out.lt
    rwa [hVL.out] at this ⊢
end Go.Proofs.Ytmhdijklindipaa

namespace Go.Proofs.Ytmhdijklindipaa
open Go.RowKit
set_option linter.unusedVariables false

theorem evalR_of {es : List Nd} {x0 x1 : Int} (h : valsOk es x0 x1 = true) : evalR es x0 x1 = (vals es x0 x1).getD (es.length - 1) 0 := by simp [evalR, h]

theorem exAt_any (L B : Nat) (A : Option Addr) (c : Nat) (es : List Nd) (x0 x1 : Int) (w : World) (hl : es.length ≤ 24) (hl1 : 1 ≤ es.length) (hes : NS w L B A es) (hB : B ≤ w.heap.size) (hok : okFrom es 0 = true) (h0 : 0 ≤ x0 ∧ x0 ≤ 63) (h1 : 0 ≤ x1 ∧ x1 ≤ 63) :
    Calls Try.prog 227 #[.slice A es.length c, .int .i64 x0, .int .i64 x1] w fun e w' => e = .returned (.int .i64 ((vals es x0 x1).getD (es.length - 1) 0)) ∧ Below w.heap.size w w' := by
  have H0 := exValues_any L B A c es x0 x1 w hl hes hB hok h0 h1
  obtain ⟨m, hm⟩ : ∃ m, es.length = m + 1 := ⟨es.length - 1, by omega⟩
  have hml : Hid ((vals es x0 x1).length = m + 1) := by rw [Hid, vals_len, hm]
  rw [hm] at H0
  rw [hm, Nat.add_sub_cancel]
  have H := Lib.hid H0
  have hm24 : m + 1 ≤ 24 := by omega
  clear H0 hes hok h0 h1 hl hl1 hm hB
  go_enter Try.func227, Try.ntmps227
  go_wp2_with (fail)
  refine H.out.mono ?_
  rintro e w2 ⟨V, cv, rfl, how, hb⟩
  have hbb := Lib.hid hb
  obtain ⟨V2, c2, hv2, his⟩ := how.form
  obtain ⟨rfl, rfl⟩ : V = V2 ∧ cv = c2 := by injection hv2 with a _ b; exact ⟨a, b⟩
  obtain ⟨gb, go, rfl, _, hcell⟩ := his.getD (q := m) (by rw [hml.out]; omega)
  clear how hb his hv2
  rw [hml.out]
  generalize hy : (vals es x0 x1).getD m 0 = y at *
  have HY := Lib.hid hy
  clear hy
  go_wp2
  go_ret
  exact ⟨ret_int HY.out.symm, hbb.out⟩

theorem okParts {es : List Nd} {x0 x1 : Int} (hv : valsOk es x0 x1 = false) : good es = false ∨ (good es = true ∧ isW x0 = false) ∨ (good es = true ∧ isW x0 = true ∧ isW x1 = false) := by
  cases h1 : good es <;> cases h2 : isW x0 <;> cases h3 : isW x1 <;> simp [valsOk, h1, h2, h3] at hv ⊢

set_option maxHeartbeats 1000000 in
theorem iEvalExpr_any (L B : Nat) (A : Option Addr) (c : Nat) (es : List Nd) (x0 x1 : Int) (w : World) (hl : es.length ≤ 1048576) (hes : NS w L B A es) (hB : B ≤ w.heap.size) :
    Calls Try.prog 17 #[.slice A es.length c, .int .i64 x0, .int .i64 x1] w fun e w' => e = .returned (.tuple #[.int .i64 (evalR es x0 x1), .bool (valsOk es x0 x1)]) ∧ Below w.heap.size w w' := by
  have H0 := iValuesOf_any L B A c es x0 x1 w hl hes hB
  clear hes hB
  cases hv : valsOk es x0 x1
  · have hR2 : Hid (evalR es x0 x1 = 0) := by simp [Hid, evalR, hv]
    rw [hv] at H0
    have H := Lib.hid H0
    clear H0 hv
    go_enter Try.func17, Try.ntmps17
    go_wp2_with (fail)
    refine H.out.mono ?_
    rintro e w2 ⟨V, cv, rfl, how, hb⟩
    have hbb := Lib.hid hb
    clear hb how
    go_wp2_with (fail)
    go_ret2
    exact ⟨by rw [hR2.out]; rfl, hbb.out⟩
  · have hR2 := Lib.hid (evalR_of hv)
    have hRV : valsR es x0 x1 = vals es x0 x1 := by simp [valsR, hv]
    obtain ⟨hg, _, _⟩ := valsOk_parts hv
    obtain ⟨hl1, hl24, _⟩ := good_len hg
    obtain ⟨m, hm⟩ : ∃ m, es.length = m + 1 := ⟨es.length - 1, by omega⟩
    have hml : Hid ((vals es x0 x1).length = m + 1) := by rw [Hid, vals_len, hm]
    rw [hv, hRV, hm] at H0
    rw [hm]
    have hR3 : Hid (evalR es x0 x1 = (vals es x0 x1).getD m 0) := by rw [Hid, hR2.out, hm]; rfl
    have H := Lib.hid H0
    have hm24 : m + 1 ≤ 24 := by omega
    clear H0 hv hRV hg hl1 hl24 hl hm hR2
    go_enter Try.func17, Try.ntmps17
    go_wp2_with (fail)
    refine H.out.mono ?_
    rintro e w2 ⟨V, cv, rfl, how, hb⟩
    have hbb := Lib.hid hb
    obtain ⟨V2, c2, hv2, his⟩ := how.form
    obtain ⟨rfl, rfl⟩ : V = V2 ∧ cv = c2 := by injection hv2 with a _ b; exact ⟨a, b⟩
    obtain ⟨gb, go, rfl, _, hcell⟩ := his.getD (q := m) (by rw [hml.out]; omega)
    clear how hb his hv2
    rw [hml.out]
    generalize hy : (vals es x0 x1).getD m 0 = y at *
    have HY := Lib.hid hy
    clear hy
    go_wp2_with (fail)
    go_ret2
    exact ⟨by rw [hR3.out]; rfl, hbb.out⟩
end Go.Proofs.Ytmhdijklindipaa

namespace Go.Proofs.Ytmhdijklindipaa
open Go.RowKit
set_option linter.unusedVariables false
set_option maxRecDepth 100000

/-- The value of an expression. -/
def at2 (es : List Nd) (x0 x1 : Int) : Int := (vals es x0 x1).getD (es.length - 1) 0
def tab (es : List Nd) : List Int := tabTo (at2 es) 4096
def tabR (es : List Nd) : List Int := if good es = true then tab es else []
theorem tabR_len (es : List Nd) : (tabR es).length ≤ 1048576 := by
  unfold tabR; split
  · unfold tab; rw [tabTo_len]; omega
  · simp

set_option maxHeartbeats 4000000 in
theorem exTable_any (L B : Nat) (A : Option Addr) (c : Nat) (es : List Nd) (w : World) (hl : es.length ≤ 24) (hl1 : 1 ≤ es.length) (hes : NS w L B A es) (hB : B ≤ w.heap.size) (hok : okFrom es 0 = true) :
    Calls Try.prog 121 #[.slice A es.length c] w (OwnIs w (tab es)) := by
  obtain ⟨i0, hi, hz0, hz1, hz2⟩ := info_parts Try.infoInt
  have hI := Lib.hid hi
  have hZ0 := Lib.hid hz0
  have hZ1 := Lib.hid hz1
  have hZ2 := Lib.hid hz2
  clear hi hz0 hz1 hz2
  have hat := fun (x0 x1 : Nat) (W : World) (hW : Below w.heap.size w W) (h0 : x0 < 64) (h1 : x1 < 64) => exAt_any L B A c es (x0 : Int) (x1 : Int) W hl hl1 (hes.below hW hB) (Nat.le_trans hB hW.size) hok ⟨by omega, by omega⟩ ⟨by omega, by omega⟩
  have hAt := Lib.hid hat
  have hBel0 := Lib.hid (Below.refl w.heap.size w)
  clear hes hB hok hat hl hl1
  go_enter Try.func121, Try.ntmps121
  go_wp2
  go_loopw [3, 4, 5] (fun v i _ wr => ∃ k : Nat, k ≤ 64 ∧ i = .int .i64 k ∧ OW wr w.heap.size wr.heap.size v (tabTo (at2 es) (64 * k + 0)) ∧ Below w.heap.size w wr) (fun _ i _ _ => 64 - (intOf i).toNat)
  case atStart => exact ⟨0, Nat.zero_le _, rfl, OW.nil _ _ _, hBel0.out⟩
  case round =>
    obtain ⟨k, hk, rfl, how, hbel⟩ := hrel
    have hOW := Lib.hid how
    have hBL := Lib.hid hbel
    clear how hbel
    by_cases hlt : k < 64
    · obtain ⟨wo, hwo⟩ : ∃ wo : World, wo = wr := ⟨_, rfl⟩
      rw [← hwo] at hOW hBL ⊢
      clear hwo
      have hk63 : (k : Int) ≤ 63 := by omega
      have hd63 : decide ((k : Int) ≤ 63) = true := by simpa using hk63
      go_wp2
      go_loopw [3, 5] (fun v j wr => ∃ n : Nat, n ≤ 64 ∧ j = .int .i64 n ∧ OW wr w.heap.size wr.heap.size v (tabTo (at2 es) (64 * k + n)) ∧ Below w.heap.size w wr) (fun _ j _ => 64 - (intOf j).toNat)
      case atStart => exact ⟨0, Nat.zero_le _, rfl, hOW.out, hBL.out⟩
      case round =>
        obtain ⟨n, hn, rfl, how, hbel⟩ := hrel
        have hOI := Lib.hid how
        have hBI := Lib.hid hbel
        obtain ⟨V, cv, rfl, _⟩ := how.form
        have hTL := Lib.hid (tabTo_len (at2 es) (64 * k + n))
        clear how hbel
        by_cases hlt2 : n < 64
        · have hS := Lib.hid (tabTo_succ (at2 es) k n hlt2)
          generalize tabTo (at2 es) (64 * k + n) = xs at *
          go_wp2_with (fail)
          refine (hAt.out k n _ hBI.out hlt hlt2).mono ?_
          rintro e w2 ⟨rfl, hb2⟩
          have hb2' := Lib.hid (hBI.out.trans (hb2.mono hBI.out.size))
          have ho2 := Lib.hid ((hOI.out.below hb2 (Nat.le_refl _)).1.alloc (.cells #[.int .i64 ((vals es (k : Int) (n : Int)).getD (es.length - 1) 0)] 3))
          have hb3 := Lib.hid (hb2'.out.alloc hb2'.out.size (.cells #[.int .i64 ((vals es (k : Int) (n : Int)).getD (es.length - 1) 0)] 3))
          have hlo := Lib.hid hOI.out.lo
          have hxx : Hid (at2 es k n = (vals es (k : Int) (n : Int)).getD (es.length - 1) 0) := rfl
          clear hb2
          generalize (vals es (k : Int) (n : Int)).getD (es.length - 1) 0 = x at *
          have hxl : xs.length ≤ 4096 := by rw [hTL.out]; omega
          go_wp2_with (at_builtin; refine wpList_append_own _ rfl _ _ 27 rfl w.heap.size 3 i0 (.int .i64 0) 1 8 Try.underlying27 hI.out hZ0.out hZ1.out hZ2.out rfl (by decide) _ _ _ rfl ho2.out ⟨w2.heap.size, 0, none⟩ 1 1 [.int .i64 x] rfl rfl (new1 rfl) (one1 _) (by unfold maxLen; omega) (by omega) (by have := hb2'.out.size; simp; omega) ?_; intro v' w4 hown4 hgr4 _)
          have R1 := Lib.hid (OW.push (by simpa using hown4) : OW w4 w.heap.size w4.heap.size v' (xs ++ [x]))
          have R2 := Lib.hid (hb3.out.grown hgr4 hb3.out.size (fun k hk => (hlo.out k hk).1))
          clear hown4 hgr4
          go_wp2
          go_roundw
          case rel => exact ⟨n + 1, by omega, by go_num, by rw [hS.out, hxx.out]; exact R1.out, R2.out⟩
          case measure => simp [intOf]; omega
        · obtain rfl : n = 64 := by omega
          rw [tabTo_next] at hOI
          go_wp2
          go_roundw
          case rel => exact ⟨k + 1, by omega, by go_num, hOI.out, hBI.out⟩
          case measure => simp [intOf]; omega
    · obtain rfl : k = 64 := by omega
      obtain ⟨V, cv, rfl, _⟩ := hOW.out.form
      go_wp2
      go_ret
      exact ⟨V, cv, rfl, hOW.out, hBL.out⟩
end Go.Proofs.Ytmhdijklindipaa

namespace Go.Proofs.Ytmhdijklindipaa
open Go.RowKit
set_option linter.unusedVariables false
set_option maxRecDepth 100000

/-- One int appended where there is room. -/
theorem append_room_int {w : World} {g r : Nat} {xs : List Int} (hib : IB w g 3 (xs ++ zeros (r + 1))) (ty : TypeId) (cap : Nat) (hcap : xs.length + 1 ≤ cap) (a : Nat) (x : Int) (ha : w.cell? ⟨a, 0, none⟩ = some (.int .i64 x)) :
    (Builtin.append_ #[27, 27] ty #[.slice (some ⟨g, 0, none⟩) xs.length cap, .slice (some ⟨a, 0, none⟩) 1 1]).run Try.prog w = .ok (.slice (some ⟨g, 0, none⟩) (xs.length + 1) cap) (w.setCell ⟨g, xs.length, none⟩ (.int .i64 x)) := by
  obtain ⟨i0, hi, hz0, hz1, hz2⟩ := info_parts Try.infoInt
  have h := run_append_room_cells (P := Try.prog) (w := w) 27 ty 3 i0 Try.underlying27 hi g 0 xs.length cap ⟨a, 0, none⟩ 1 1 [.int .i64 x] (by rw [hz1]; rfl)
    (fun j u hj => by
      match j, hj with
      | 0, hj => simp at hj; subst hj; simpa [Addr.add] using ha)
    (one1 x) hcap
    (fun j hj => by
      obtain rfl : j = 0 := by simpa using hj
      rw [hz1, Nat.zero_add, Nat.mul_one, Nat.add_zero, hib.cell xs.length (by simp [zeros])]; rfl)
    (fun j hj => hib.frozen _)
  rw [hz1, Nat.zero_add, Nat.mul_one] at h
  exact h
theorem room_set {w : World} {g r : Nat} {xs : List Int} (h : IB w g 3 (xs ++ zeros (r + 1))) (x : Int) : IB (w.setCell ⟨g, xs.length, none⟩ (.int .i64 x)) g 3 ((xs ++ [x]) ++ zeros r) := by
  have := h.set xs.length x
  rwa [List.set_append_right _ _ (Nat.le_refl _), Nat.sub_self, show zeros (r + 1) = 0 :: zeros r from rfl, List.set_cons_zero, List.append_cons] at this
theorem room_ow {w : World} {g r lo hi : Nat} {xs : List Int} (h : IB w g 3 (xs ++ zeros r)) (hlo : lo ≤ g) (hhi : g < hi) (hl : xs.length + r ≤ 1000000) : OW w lo hi (.slice (some ⟨g, 0, none⟩) xs.length (xs.length + r)) xs :=
  ⟨⟨by simp, .inr ⟨g, xs.length + r, intCells (xs ++ zeros r), rfl, hlo, h, by omega, by unfold maxLen; omega, by simp [intCells, zeros], by simp [intCells]⟩⟩,
   fun k hk => by simp [Value.ownBlock] at hk; omega⟩

theorem IB.other {w : World} {g q : Nat} {t : TypeId} {xs : List Int} (h : IB w g t xs) (j : Nat) (x : Value) (hne : q ≠ g) : IB (w.setCell ⟨q, j, none⟩ x) g t xs :=
  (Below.heap_setCell w ⟨q, j, none⟩ x g (by simpa using fun e => hne e.symm)).trans h

set_option maxHeartbeats 8000000 in
theorem iTableOf_any (L B : Nat) (A : Option Addr) (c : Nat) (es : List Nd) (w : World) (hl : es.length ≤ 1048576) (hes : NS w L B A es) (hB : B ≤ w.heap.size) :
    Calls Try.prog 20 #[.slice A es.length c] w (IntsRes w (tabR es) (good es)) := by
  have H := Lib.hid (IsExpr_any L B A c es w hl hes hB)
  have hE := Lib.hid hes
  have hBB := Lib.hid hB
  clear hes hB
  have hmk0 : ∀ W : World, (Instr.makeSlice 27 (.int .i64 0) (.int .i64 4096)).run Try.prog W = .ok (.slice (some ⟨W.heap.size, 0, none⟩) 0 4096) (W.alloc (.cells (madeCells #[.int .i64 0] 4096) 3)) := fun W => run_make_room (P := Try.prog) 27 3 (.int .i64 0) 8 Try.underlying27 Try.infoInt rfl .i64 .i64 4096 (by omega) (by omega) W
  have hmk := run_make_ints es.length hl
  cases hg : good es
  · have hR2 : Hid (tabR es = []) := by simp [Hid, tabR, hg]
    rw [hg] at H
    clear hg
    go_enter Try.func20, Try.ntmps20
    go_wp2_with (fail)
    refine H.out.mono ?_
    rintro e w2 ⟨rfl, hb⟩
    go_wp2_with (fail)
    go_ret2
    refine ⟨none, 0, ?_, ?_, hb⟩
    · rw [hR2.out]; rfl
    · rw [hR2.out]; exact OW.nil _ _ _
  have hR2 : Hid (tabR es = tab es) := by simp [Hid, tabR, hg]
  obtain ⟨hl1, hl24, hok⟩ := good_len hg
  have hOk := Lib.hid hok
  rw [hg] at H
  clear hg hok
  have hes' := fun (W : World) (hW : Below w.heap.size w W) => hE.out.below hW hBB.out
  have hF := Lib.hid (fun (x0 x1 gv cg : Nat) (xs : List Int) (W : World) (hW : Below w.heap.size w W) (hv : w.heap.size ≤ gv) (hib : IB W gv 3 xs) (hxl : xs.length = es.length) (hw : AllW xs) (h0 : x0 < 64) (h1 : x1 < 64) =>
    fillValues_eq L B A c es.length cg es gv xs (x0 : Int) (x1 : Int) W hxl.symm hl24 (hes' W hW) (Nat.le_trans hBB.out hv) hxl hib hw hOk.out ⟨by omega, by omega⟩ ⟨by omega, by omega⟩)
  clear hes'
  obtain ⟨m, hm⟩ : ∃ m, es.length = m + 1 := ⟨es.length - 1, by omega⟩
  have hM := Lib.hid hm
  have hvl : ∀ x0 x1, Hid ((vals es x0 x1).length = es.length) := fun x0 x1 => vals_len _ _ _
  have hat : ∀ x0 x1, Hid (at2 es x0 x1 = (vals es x0 x1).getD m 0) := fun x0 x1 => by rw [Hid, at2, hM.out, Nat.add_sub_cancel]
  have hAT := Lib.hid hat
  clear hat
  have hml : m < es.length := by omega
  have hw2 := Lib.hid (show (es.length : Int) - 1 = m by omega)
  clear hm
  go_enter Try.func20, Try.ntmps20
  go_wp2_with (fail)
  refine H.out.mono ?_
  rintro e w2 ⟨rfl, hb2⟩
  have hB2 := Lib.hid hb2
  have hz2 := Lib.hid hb2.size
  clear hb2
  have hT0 : Hid (IB (w2.alloc (.cells (madeCells #[.int .i64 0] 4096) 3)) w2.heap.size 3 (tabTo (at2 es) (64 * 0 + 0) ++ zeros (4096 - (64 * 0 + 0)))) := by
    have h1 : madeCells #[Value.int .i64 0] 4096 = intCells (zeros 4096) := by
      apply Array.ext'
      rw [intCells, zeros, List.map_replicate]
      exact toList_madeCells_one _ _
    rw [h1]
    exact heap_alloc_new w2 _
  have hB3 := Lib.hid (hB2.out.alloc hz2.out (.cells (madeCells #[.int .i64 0] 4096) 3))
  generalize madeCells #[Value.int .i64 0] 4096 = mc at *
  have hT1 := Lib.hid (hT0.out.below ((Below.refl _ _).alloc (Nat.le_refl _) (.cells (intCells (zeros es.length)) 3)) hT0.out.lt)
  have hV1 : Hid (IB ((w2.alloc (.cells mc 3)).alloc (.cells (intCells (zeros es.length)) 3)) (w2.heap.size + 1) 3 (zeros es.length)) := by
    have := heap_alloc_new (w2.alloc (.cells mc 3)) (.cells (intCells (zeros es.length)) 3)
    rwa [World.size_alloc] at this
  have hB4 := Lib.hid (hB3.out.alloc hB3.out.size (.cells (intCells (zeros es.length)) 3))
  have hT2 : Hid (IB ((w2.alloc (.cells mc 3)).alloc (.cells (intCells (zeros es.length)) 3)) w2.heap.size 3 (tabTo (at2 es) (64 * 0 + 0) ++ zeros (4096 - (64 * 0 + 0)))) := hT1.out
  have hgz := hz2.out
  have hxz : (zeros es.length).length = es.length := by simp [zeros]
  have hXZ := Lib.hid hxz
  clear hxz hT0 hT1 hB3
  go_wp2
  generalize hW0 : (w2.alloc (.cells mc 3)).alloc (.cells (intCells (zeros es.length)) 3) = W0 at *
  generalize hg0 : w2.heap.size = g at *
  clear hW0 hg0 hmk hmk0
  go_loopw [4, 15] (fun v i wr => ∃ k : Nat, k ≤ 64 ∧ i = .int .i64 k ∧ v = .slice (some ⟨g, 0, none⟩) (64 * k + 0) 4096 ∧ IB wr g 3 (tabTo (at2 es) (64 * k + 0) ++ zeros (4096 - (64 * k + 0))) ∧ (∃ xs : List Int, (xs.length = es.length ∧ AllW xs) ∧ IB wr (g + 1) 3 xs) ∧ Below w.heap.size w wr) (fun _ i _ => 64 - (intOf i).toNat)
  case atStart => exact ⟨0, Nat.zero_le _, rfl, rfl, hT2.out, ⟨_, ⟨hXZ.out, AllW.zeros _⟩, hV1.out⟩, hB4.out⟩
  case round =>
    obtain ⟨k, hk, rfl, rfl, hib, ⟨xs, hxs, hiv⟩, hbel⟩ := hrel
    have hIB := Lib.hid hib
    have hIV := Lib.hid (And.intro hxs hiv)
    have hBL := Lib.hid hbel
    clear hib hxs hiv hbel
    by_cases hlt : k < 64
    · obtain ⟨wo, hwo⟩ : ∃ wo : World, wo = wr := ⟨_, rfl⟩
      rw [← hwo] at hIB hIV hBL ⊢
      clear hwo
      have hk64 : (k : Int) < 64 := by omega
      have hd64 : decide ((k : Int) < 64) = true := by simpa using hk64
      go_wp2
      go_loopw [4, 18] (fun v j wr => ∃ n : Nat, n ≤ 64 ∧ j = .int .i64 n ∧ v = .slice (some ⟨g, 0, none⟩) (64 * k + n) 4096 ∧ IB wr g 3 (tabTo (at2 es) (64 * k + n) ++ zeros (4096 - (64 * k + n))) ∧ (∃ xs : List Int, (xs.length = es.length ∧ AllW xs) ∧ IB wr (g + 1) 3 xs) ∧ Below w.heap.size w wr) (fun _ j _ => 64 - (intOf j).toNat)
      case atStart => exact ⟨0, Nat.zero_le _, rfl, rfl, hIB.out, ⟨_, hIV.out⟩, hBL.out⟩
      case round =>
        obtain ⟨n, hn, rfl, rfl, hib, ⟨ys, hys, hiv⟩, hbel⟩ := hrel
        have hJB := Lib.hid hib
        have hJV := Lib.hid (And.intro hys hiv)
        have hCL := Lib.hid hbel
        clear hib hys hiv hbel
        by_cases hlt2 : n < 64
        · have hn64 : (n : Int) < 64 := by omega
          have hdn64 : decide ((n : Int) < 64) = true := by simpa using hn64
          go_wp2_with (fail)
          refine (hF.out k n (g + 1) _ ys _ hCL.out (by omega) hJV.out.2 hJV.out.1.1 hJV.out.1.2 hlt hlt2).mono ?_
          rintro e w3 ⟨rfl, hi3, hg3⟩
          have hgz3 := hg3.size
          have hCZ := hCL.out.size
          have hJ3 : Hid (IB w3 g 3 (tabTo (at2 es) (64 * k + n) ++ zeros (4096 - (64 * k + n)))) := (hg3.block g hJB.out.lt (fun e => by injection e with e; omega)).trans hJB.out
          have hI3 := Lib.hid hi3
          have hC3 := Lib.hid (hCL.out.grown hg3 hCZ (fun q hq => by injection hq with hq; omega))
          have hcm : w3.cell? ⟨g + 1, m, none⟩ = some (.int .i64 (at2 es k n)) := by
            rw [(hAT.out k n).out, hi3.cell m (by rw [(hvl k n).out]; omega), List.getD_eq_getElem?_getD, List.getElem?_eq_getElem (by rw [(hvl k n).out]; omega)]; rfl
          have hTL := Lib.hid (tabTo_len (at2 es) (64 * k + n))
          have hS := Lib.hid (tabTo_succ (at2 es) k n hlt2)
          have hvl' := Lib.hid (And.intro (hvl k n).out (valsAt_W hOk.out ⟨by omega, by omega⟩ ⟨by omega, by omega⟩ (Nat.le_refl _) : AllW (vals es (k : Int) (n : Int))))
          clear hi3 hg3
          generalize tabTo (at2 es) (64 * k + n) = zs at *
          generalize at2 es k n = x at *
          obtain ⟨r, hr⟩ : ∃ r, 4096 - (64 * k + n) = r + 1 := ⟨4096 - (64 * k + n) - 1, by omega⟩
          have hr2 : Hid (4096 - (64 * k + (n + 1)) = r) := by simp only [Hid]; omega
          rw [hr] at hJ3
          have hJ4 := Lib.hid (hJ3.out.below ((Below.refl w3.heap.size w3).alloc (Nat.le_refl _) (.cells #[.int .i64 x] 3)) hJ3.out.lt)
          have hap := Lib.hid (fun ty => append_room_int hJ4.out ty 4096 (by rw [hTL.out]; omega) w3.heap.size x (by simp))
          have hst := Lib.hid (room_set hJ4.out x)
          have hsv := Lib.hid (((hI3.out.below ((Below.refl w3.heap.size w3).alloc (Nat.le_refl _) (.cells #[.int .i64 x] 3)) hI3.out.lt)))
          have hCf := Lib.hid ((hC3.out.alloc hC3.out.size (.cells #[.int .i64 x] 3)).setCell (p := ⟨g, zs.length, none⟩) (by show w.heap.size ≤ g; omega) (.int .i64 x))
          rw [hTL.out] at hap hst hCf
          clear hr
          have hw3 := hw2.out
          go_wp2_with (at_builtin; refine Lib.wpList_append_run _ rfl _ _ _ _ rfl _ _ rfl rfl _ _ (hap.out _) ?_)
          go_roundw
          case rel => exact ⟨n + 1, by omega, by go_num, rfl, by rw [hS.out, hr2.out]; exact hst.out, ⟨_, hvl'.out, IB.other hsv.out _ _ (by omega)⟩, hCf.out⟩
          case measure => simp [intOf]; omega
        · obtain rfl : n = 64 := by omega
          rw [tabTo_next] at hJB
          go_wp2
          go_roundw
          case rel => exact ⟨k + 1, by omega, by go_num, rfl, hJB.out, ⟨_, hJV.out⟩, hCL.out⟩
          case measure => simp [intOf]; omega
    · obtain rfl : k = 64 := by omega
      have hfin := Lib.hid (room_ow (lo := w.heap.size) (hi := wr.heap.size) (r := 0) hIB.out (by omega) hIB.out.lt (by rw [tabTo_len]; omega))
      rw [tabTo_len] at hfin
      go_wp2
      go_ret2
      rw [hR2.out]
      exact ⟨_, _, by unfold tab; rw [tabTo_len]; rfl, by unfold tab; rw [tabTo_len]; exact hfin.out, hBL.out⟩

set_option maxHeartbeats 1000000 in
theorem sTableOf_any (L B : Nat) (A : Option Addr) (c : Nat) (es : List Nd) (w : World) (hl : es.length ≤ 1048576) (hes : NS w L B A es) (hB : B ≤ w.heap.size) :
    Calls Try.prog 21 #[.slice A es.length c] w (IntsRes w (tabR es) (good es)) := by
  have H := Lib.hid (exGood_any L B A c es w hl hes hB)
  have hE := Lib.hid hes
  have hBB := Lib.hid hB
  clear hes hB
  cases hg : good es
  · have hR2 : Hid (tabR es = []) := by simp [Hid, tabR, hg]
    rw [hg] at H
    clear hg
    go_enter Try.func21, Try.ntmps21
    go_wp2_with (fail)
    refine H.out.mono ?_
    rintro e w2 ⟨rfl, hb⟩
    go_wp2_with (fail)
    go_ret2
    refine ⟨none, 0, ?_, ?_, hb⟩
    · rw [hR2.out]; rfl
    · rw [hR2.out]; exact OW.nil _ _ _
  have hR2 : Hid (tabR es = tab es) := by simp [Hid, tabR, hg]
  obtain ⟨hl1, hl24, hok⟩ := good_len hg
  have hT := Lib.hid (fun (W : World) (hW : Below w.heap.size w W) => exTable_any L B A c es W hl24 hl1 (hE.out.below hW hBB.out) (Nat.le_trans hBB.out hW.size) hok)
  rw [hg] at H
  clear hg hok hl1 hl24
  go_enter Try.func21, Try.ntmps21
  go_wp2_with (fail)
  refine H.out.mono ?_
  rintro e w2 ⟨rfl, hb⟩
  have hbb := Lib.hid hb
  clear hb
  go_wp2_with (fail)
  refine (hT.out w2 hbb.out).mono ?_
  rintro e w3 ⟨V, cv, rfl, how, hb3⟩
  have hO := Lib.hid (how.lower hbb.out.size)
  have hb3' := Lib.hid (hbb.out.trans (hb3.mono hbb.out.size))
  clear how hb3
  generalize tab es = zs at *
  go_wp2_with (fail)
  go_ret2
  rw [hR2.out]
  exact ⟨V, cv, rfl, hO.out, hb3'.out⟩
end Go.Proofs.Ytmhdijklindipaa
