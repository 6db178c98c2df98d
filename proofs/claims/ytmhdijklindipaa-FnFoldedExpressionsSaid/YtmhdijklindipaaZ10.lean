/- Texts of this proof, one behind the other: XE, XF, UA, TM, TE, XG. -/
import Derived.Test.YtmhdijklindipaaZ11
import Derived.WalkKit
import Derived.WalkSpells
import Derived.WalkLawsBesides
import Derived.Deep.AppendLies
import Derived.Lib.Hide
import Derived.Test.YtmhdijklindipaaZ14
import Derived.Test.YtmhdijklindipaaM
/- A builder inside a bigger box: its state, and what one world changes of another. -/
namespace Go.Proofs.Ytmhdijklindipaa
open Go.RowKit
set_option linter.unusedVariables false
set_option maxRecDepth 100000

/-- What one world changes of another: the block q and the row r alone. -/
structure Fr (q : Nat) (r : Option Nat) (w w' : World) : Prop where
  os : w'.os = w.os
  tape : w'.tape = w.tape
  output : w'.output = w.output
  size : w.heap.size ≤ w'.heap.size
  block : ∀ j, j < w.heap.size → j ≠ q → r ≠ some j → w'.heap[j]? = w.heap[j]?
theorem Fr.below {q B : Nat} {r : Option Nat} {w w' : World} (h : Fr q r w w') (hB : B ≤ w.heap.size) (hq : B ≤ q) (hr : ∀ j, r = some j → B ≤ j) : Below B w w' :=
  ⟨h.os, h.tape, h.output, h.size, fun j hj => h.block j (by omega) (by omega) (fun e => by have := hr j e; omega)⟩
theorem Fr.ofBelow {q : Nat} {r : Option Nat} {w w' : World} (h : Below w.heap.size w w') : Fr q r w w' := ⟨h.os, h.tape, h.output, h.size, fun j hj _ _ => h.block j hj⟩
theorem Fr.refl (q : Nat) (r : Option Nat) (w : World) : Fr q r w w := ⟨rfl, rfl, rfl, Nat.le_refl _, fun _ _ _ _ => rfl⟩
theorem Fr.trans {q : Nat} {r r' : Option Nat} {a b c : World} (h : Fr q r a b) (k : Fr q r' b c) (hr : ∀ j, r' = some j → r = some j ∨ a.heap.size ≤ j) : Fr q r a c :=
  ⟨k.os.trans h.os, k.tape.trans h.tape, k.output.trans h.output, Nat.le_trans h.size k.size, fun j hj h1 h2 =>
    (k.block j (Nat.lt_of_lt_of_le hj h.size) h1 (fun e => by rcases hr j e with e' | e'; exact h2 e'; omega)).trans (h.block j hj h1 h2)⟩
theorem Fr.set {q : Nat} {r : Option Nat} {a w : World} (h : Fr q r a w) (i : Nat) (u : Value) : Fr q r a (w.setCell ⟨q, i, none⟩ u) :=
  ⟨h.os, h.tape, h.output, by simpa [World.setCell] using h.size, fun j hj h1 h2 => (Below.heap_setCell w ⟨q, i, none⟩ u j (by simpa using h1)).trans (h.block j hj h1 h2)⟩
theorem Fr.far {q : Nat} {r : Option Nat} {a w : World} (h : Fr q r a w) {p : Addr} (hp : a.heap.size ≤ p.block) (u : Value) : Fr q r a (w.setCell p u) :=
  ⟨h.os, h.tape, h.output, by simpa [World.setCell] using h.size, fun j hj h1 h2 => (Below.heap_setCell w p u j (by omega)).trans (h.block j hj h1 h2)⟩
theorem Fr.drew {q : Nat} {r : Option Nat} {a w : World} (h : Fr q r a w) : Fr q r a w.drew := ⟨h.os, h.tape, h.output, h.size, h.block⟩
theorem Fr.ofGrown {q : Nat} {r : Option Nat} {w w' : World} (h : w.grownBy w' r) : Fr q r w w' := ⟨h.os, h.tape, h.output, h.size, fun j hj _ h2 => h.block j hj (fun e => h2 e.symm)⟩

/-- The state of a builder: its nodes lie in v, its flag is told, the rest of its box stays. -/
def GS (t : TypeId) (rest : List Value) (q L : Nat) (xs : List Nd) (fl : Bool) (v : Value) (w : World) : Prop :=
  w.heap[q]? = some (.cells (v :: .bool fl :: rest).toArray t (0, 0)) ∧ w.ownsRow L 40 4 v xs.length (xs.flatMap Nd.enc) ∧ v.ownBlock ≠ some q
theorem GS.lt {t : TypeId} {rest : List Value} {q L : Nat} {xs : List Nd} {fl : Bool} {v : Value} {w : World} (h : GS t rest q L xs fl v w) : q < w.heap.size := by
  rcases Nat.lt_or_ge q w.heap.size with hlt | hge
  · exact hlt
  · have := h.1; rw [Array.getElem?_eq_none hge] at this; cases this
theorem GS.own {t : TypeId} {rest : List Value} {q L : Nat} {xs : List Nd} {fl : Bool} {v : Value} {w : World} (h : GS t rest q L xs fl v w) : ∀ j, v.ownBlock = some j → L ≤ j ∧ j < w.heap.size := fun j hj => h.2.1.lt j hj
theorem GS.keep {t : TypeId} {rest : List Value} {q L : Nat} {xs : List Nd} {fl : Bool} {v : Value} {w w' : World} (h : GS t rest q L xs fl v w) (hq : w'.heap[q]? = w.heap[q]?) (hr : ∀ j, v.ownBlock = some j → w'.heap[j]? = w.heap[j]?) : GS t rest q L xs fl v w' := by
  refine ⟨hq.trans h.1, ⟨h.2.1.1, ?_⟩, h.2.2⟩
  rcases h.2.1.2 with hn | ⟨g, cap, cur, rfl, hg, hh, hrest⟩
  · exact .inl hn
  · exact .inr ⟨g, cap, cur, rfl, hg, (hr g rfl).trans hh, hrest⟩
theorem GS.next {t : TypeId} {rest : List Value} {q L : Nat} {xs : List Nd} {fl : Bool} {v : Value} {w w' : World} (h : GS t rest q L xs fl v w) (hb : Below w.heap.size w w') : GS t rest q L xs fl v w' :=
  h.keep (hb.block q h.lt) (fun j hj => hb.block j (h.own j hj).2)
theorem GS.other {t : TypeId} {rest : List Value} {q L : Nat} {xs : List Nd} {fl : Bool} {v : Value} {w : World} (h : GS t rest q L xs fl v w) {p : Addr} (h1 : p.block ≠ q) (h2 : v.ownBlock ≠ some p.block) (u : Value) : GS t rest q L xs fl v (w.setCell p u) :=
  h.keep (Below.heap_setCell w p u q (Ne.symm h1)) (fun j hj => Below.heap_setCell w p u j (fun e => h2 (by rw [hj, e])))
theorem GS.form {t : TypeId} {rest : List Value} {q L : Nat} {xs : List Nd} {fl : Bool} {v : Value} {w : World} (h : GS t rest q L xs fl v w) : ∃ A c, v = .slice A xs.length c := by
  rcases h.2.1.2 with ⟨rfl, h0⟩ | ⟨g, cap, cur, rfl, _⟩
  · rw [h0]; exact ⟨_, _, rfl⟩
  · exact ⟨_, _, rfl⟩
theorem GS.ok {t : TypeId} {rest : List Value} {q L : Nat} {xs : List Nd} {fl : Bool} {v : Value} {w : World} (h : GS t rest q L xs fl v w) : OK Nd.enc 4 40 w L w.heap.size v xs := ⟨h.2.1, fun j hj => (h.own j hj).2⟩
theorem GS.c0 {t : TypeId} {rest : List Value} {q L : Nat} {xs : List Nd} {fl : Bool} {v : Value} {w : World} (h : GS t rest q L xs fl v w) : w.cell? ⟨q, 0, none⟩ = some v := by
  have := h.1; simp [World.cell?, this]
theorem GS.c1 {t : TypeId} {rest : List Value} {q L : Nat} {xs : List Nd} {fl : Bool} {v : Value} {w : World} (h : GS t rest q L xs fl v w) : w.cell? ⟨q, 1, none⟩ = some (.bool fl) := by
  have := h.1; simp [World.cell?, this]
theorem GS.c2 {t : TypeId} {rest : List Value} {q L : Nat} {xs : List Nd} {fl : Bool} {v u : Value} {w : World} (h : GS t (u :: rest) q L xs fl v w) : w.cell? ⟨q, 2, none⟩ = some u := by
  have := h.1; simp [World.cell?, this]
theorem GS.fz {t : TypeId} {rest : List Value} {q L : Nat} {xs : List Nd} {fl : Bool} {v : Value} {w : World} (h : GS t rest q L xs fl v w) (i : Nat) : w.frozen? ⟨q, i, none⟩ = false := by
  have := h.1; simp [World.frozen?, this]
theorem GS.flag {t : TypeId} {rest : List Value} {q L : Nat} {xs : List Nd} {fl : Bool} {v : Value} {w : World} (h : GS t rest q L xs fl v w) (x : Bool) : GS t rest q L xs x v (w.setCell ⟨q, 1, none⟩ (.bool x)) := by
  refine ⟨?_, ?_, h.2.2⟩
  · have := h.1; simp [World.setCell, Array.getElem?_modify, this]
  · refine ⟨h.2.1.1, ?_⟩
    rcases h.2.1.2 with hn | ⟨g, cap, cur, rfl, hg, hh, hrest⟩
    · exact .inl hn
    · exact .inr ⟨g, cap, cur, rfl, hg, (Below.heap_setCell w ⟨q, 1, none⟩ _ g (fun e => h.2.2 (by have e' : g = q := e; rw [e']; rfl))).trans hh, hrest⟩
theorem GS.nil (t : TypeId) (rest : List Value) (fl : Bool) (L : Nat) (w : World) : GS t rest w.heap.size L [] fl (.slice none 0 0) (w.alloc (.cells (Value.slice none 0 0 :: .bool fl :: rest).toArray t)) :=
  ⟨heap_alloc_new w _, World.ownsRow_nil _ _ _ _, fun e => by simp [Value.ownBlock] at e⟩

/-- What a call leaves of a builder's state. -/
def GP (t : TypeId) (rest : List Value) (q L : Nat) (v : Value) (w : World) (s : List Nd × Bool) (w' : World) : Prop :=
  ∃ v', GS t rest q L s.1 s.2 v' w' ∧ Fr q v.ownBlock w w' ∧ ∀ j, v'.ownBlock = some j → v.ownBlock = some j ∨ w.heap.size ≤ j
theorem GP.refl {t : TypeId} {rest : List Value} {q L : Nat} {xs : List Nd} {fl : Bool} {v : Value} {w : World} (h : GS t rest q L xs fl v w) : GP t rest q L v w (xs, fl) w := ⟨v, h, Fr.refl _ _ _, fun j hj => .inl hj⟩
theorem GP.trans {t : TypeId} {rest : List Value} {q L : Nat} {v v1 : Value} {w w1 w2 : World} {s : List Nd × Bool} (h1 : Fr q v.ownBlock w w1) (h2 : ∀ j, v1.ownBlock = some j → v.ownBlock = some j ∨ w.heap.size ≤ j) (h : GP t rest q L v1 w1 s w2) : GP t rest q L v w s w2 := by
  obtain ⟨v2, g, f, o⟩ := h
  refine ⟨v2, g, h1.trans f h2, fun j hj => ?_⟩
  rcases o j hj with e | e
  · exact h2 j e
  · exact .inr (Nat.le_trans h1.size e)

/-! ### One node put -/
def bp (s : List Nd × Bool) (y : Nd) : (List Nd × Bool) × Int := if 24 ≤ s.1.length then ((s.1, true), 0) else if s.2 = true then (s, 0) else ((s.1 ++ [y], false), (s.1.length : Int))

theorem put_facts2 {q : Nat} {w1 w2 : World} {o : Obj} {AV : Option Addr} {cv n : Nat} {row : Option Nat} (hq : q < w1.heap.size) (hr : row ≠ some q) (k0 : w1.cell? ⟨q, 0, none⟩ = some (.slice AV n cv)) (hf : w1.frozen? ⟨q, 0, none⟩ = false) (hg : ((w1.alloc o).drew).grownBy w2 row) :
    w2.cell? ⟨q, 0, none⟩ = some (.slice AV n cv) ∧ w2.frozen? ⟨q, 0, none⟩ = false ∧ (∀ x, (w2.setCell ⟨q, 0, none⟩ x).cell? ⟨q, 0, none⟩ = some x) ∧ w2.heap[q]? = w1.heap[q]? ∧ Fr q row w1 w2 := by
  have hz : w1.heap.size ≤ (w1.alloc o).drew.heap.size := ((Below.refl w1.heap.size w1).alloc (Nat.le_refl _) o).drew.size
  have hb : w2.heap[q]? = w1.heap[q]? := (hg.block q (Nat.lt_of_lt_of_le hq hz) (Ne.symm hr)).trans (((Below.refl w1.heap.size w1).alloc (Nat.le_refl _) o).drew.block q hq)
  have hc : w2.cell? ⟨q, 0, none⟩ = some (.slice AV n cv) := (World.cell?_of_block hb).trans k0
  refine ⟨hc, (World.frozen?_of_block hb).trans hf, ?_, hb, ?_⟩
  · intro x
    exact World.cell?_setCell_same' w2 _ x (by rw [hc]; rfl)
  · exact Fr.trans (r' := row) (Fr.ofBelow (((Below.refl w1.heap.size w1).alloc (Nat.le_refl _) o).drew)) (Fr.ofGrown hg) (fun j hj => .inl hj)

set_option maxHeartbeats 4000000 in
theorem put_new (t : TypeId) (rest : List Value) (q L : Nat) (xs : List Nd) (v : Value) (y : Nd) (w : World) (hx : xs.length < 24) (hL : L ≤ w.heap.size) (hs : GS t rest q L xs false v w) :
    Calls Try.prog 252 #[.pointer (some ⟨q, 0, none⟩), .agg #[.string y.op, .int .i64 y.a, .int .i64 y.b, .int .i64 y.v]] w fun e w' => e = .returned (.int .i64 xs.length) ∧ GP t rest q L v w (xs ++ [y], false) w' := by
  obtain ⟨i0, hi0, hi1, hi2, hi3⟩ := info_parts Try.infoNode
  have hJ0 := Lib.hid hi0
  have hJ1 := Lib.hid hi1
  have hJ2 := Lib.hid hi2
  have hJ3 := Lib.hid hi3
  clear hi0 hi1 hi2 hi3
  obtain ⟨AV, cv, rfl⟩ := hs.form
  have hq0 : q < w.heap.size := hs.lt
  have hal := fun o => (Below.refl w.heap.size w).alloc (Nat.le_refl _) o
  have g0 := fun o => ((hal o).cell (p := ⟨q, 0, none⟩) hq0).trans hs.c0
  have g1 := fun o => ((hal o).cell (p := ⟨q, 1, none⟩) hq0).trans hs.c1
  have x24 : (xs.length : Int) < 24 := by omega
  have hf := hs.fz 0
  have HS := Lib.hid hs
  clear hs
  go_enter Try.func252, Try.ntmps252
  go_wp2_with (fail)
  obtain ⟨w1, hw1⟩ : ∃ w1, w1 = w.alloc (.cells #[.string y.op, .int .i64 y.a, .int .i64 y.b, .int .i64 y.v] 40) := ⟨_, rfl⟩
  have X1 : XN w1 w.heap.size y := by rw [hw1]; exact xn_new _ y
  have B1 : Hid (Below w.heap.size w w1) := by unfold Hid; rw [hw1]; exact hal _
  have k0 : w1.cell? ⟨q, 0, none⟩ = some (.slice AV xs.length cv) := by rw [hw1]; exact g0 _
  have S1 : Hid (GS t rest q L xs false (.slice AV xs.length cv) w1) := HS.out.next B1.out
  have Z1 : w1.heap.size = w.heap.size + 1 := by rw [hw1]; simp
  obtain ⟨m0, m1, m2, m3⟩ := X1.cells
  have O2 := fun o => Lib.hid (show ((w1.alloc o).drew).ownsRow L 40 4 (.slice AV xs.length cv) xs.length (xs.flatMap Nd.enc) from (S1.out.next (((Below.refl w1.heap.size w1).alloc (Nat.le_refl _) o).drew)).2.1)
  have HF1 : Hid (w1.frozen? ⟨q, 0, none⟩ = false) := S1.out.fz 0
  have hq1 : Hid (q < w1.heap.size) := S1.out.lt
  rw [← hw1]
  have HW1 := Lib.hid hw1
  have hL1 : L ≤ w1.heap.size := by omega
  clear hw1 hal g0 g1 X1
  go_region_law (first | (refine step_append_lies _ rfl _ _ 24 rfl L 40 i0 _ 4 40 Try.underlying24 hJ0.out hJ1.out hJ2.out hJ3.out rfl (by decide) _ _ _ (by rfl) (O2 _).out ⟨w.heap.size + 1, 0, none⟩ 1 1 (Nd.enc y) (by rfl) rfl (four_new y Z1) (four_one _) (by omega) (by unfold maxLen; omega) (by omega) (by simp; omega) (w1.heap.size + 1) (by simp) ?_; intro gg cap w2 hown1 hgr1 hat1 _; obtain ⟨j0, j1, j2, j3, j4⟩ := put_facts2 hq1.out HS.out.2.2 k0 HF1.out hgr1))
  all_goals
    have h1' := Lib.hid hown1
    have J3 := Lib.hid j3
    have J4 := Lib.hid j4
    have HA := Lib.hid hat1
    clear hown1 hgr1 j4 hat1 j3
    go_wp2
    go_ret
    have hgq : gg ≠ q := by
      intro e; subst e
      rcases HA.out with e | e
      · exact HS.out.2.2 e
      · have := hq1.out; omega
    refine ⟨rfl, .slice (some ⟨gg, 0, none⟩) (xs.length + 1) cap, ⟨?_, ?_, ?_⟩, ((Fr.ofBelow B1.out).trans J4.out (fun j hj => .inl hj)).set 0 _, ?_⟩
    · have h7 := J3.out.trans S1.out.1
      simp [World.setCell, Array.getElem?_modify, h7]
    · have h8 := h1'.out
      rw [nflat_snoc, List.length_append]
      refine ⟨h8.1, ?_⟩
      rcases h8.2 with hn | ⟨g, cp, cur, e, hg, hh, hrest⟩
      · exact .inl hn
      · refine .inr ⟨g, cp, cur, e, hg, ?_, hrest⟩
        have e' := e
        simp only [Value.slice.injEq, Option.some.injEq, Addr.mk.injEq] at e'
        exact (Below.heap_setCell w2 ⟨q, 0, none⟩ _ g (by rw [← e'.1.1]; exact hgq)).trans hh
    · intro e; exact hgq (by simpa [Value.ownBlock] using e)
    · intro j hj
      have hj' : gg = j := by simpa [Value.ownBlock] using hj
      subst hj'
      rcases HA.out with e | e
      · exact .inl e
      · exact .inr (by omega)

set_option maxHeartbeats 4000000 in
theorem put_full (t : TypeId) (rest : List Value) (q L : Nat) (xs : List Nd) (fl : Bool) (v : Value) (y : Nd) (w : World) (hx : 24 ≤ xs.length) (hs : GS t rest q L xs fl v w) :
    Calls Try.prog 252 #[.pointer (some ⟨q, 0, none⟩), .agg #[.string y.op, .int .i64 y.a, .int .i64 y.b, .int .i64 y.v]] w fun e w' => e = .returned (.int .i64 0) ∧ GP t rest q L v w (xs, true) w' := by
  obtain ⟨AV, cv, rfl⟩ := hs.form
  obtain ⟨w1, hw1⟩ : ∃ w1, w1 = w.alloc (.cells #[.string y.op, .int .i64 y.a, .int .i64 y.b, .int .i64 y.v] 40) := ⟨_, rfl⟩
  have B1 : Hid (Below w.heap.size w w1) := by unfold Hid; rw [hw1]; exact (Below.refl w.heap.size w).alloc (Nat.le_refl _) _
  have S1 : Hid (GS t rest q L xs fl (.slice AV xs.length cv) w1) := hs.next B1.out
  have S2 := Lib.hid (S1.out.flag true)
  have k0 := S1.out.c0
  have k1 := S1.out.c1
  have kf := S1.out.fz 1
  have ks := S2.out.c1
  have x24 : (24 : Int) ≤ (xs.length : Int) := by omega
  have HW1 := Lib.hid hw1
  rw [hw1] at k0 k1 kf ks
  clear hs hw1
  go_enter Try.func252, Try.ntmps252
  go_wp2
  go_ret
  rw [← HW1.out]
  exact ⟨rfl, _, S2.out, (Fr.ofBelow B1.out).set 1 _, fun j hj => .inl hj⟩

set_option maxHeartbeats 4000000 in
theorem put_failed (t : TypeId) (rest : List Value) (q L : Nat) (xs : List Nd) (v : Value) (y : Nd) (w : World) (hx : xs.length < 24) (hs : GS t rest q L xs true v w) :
    Calls Try.prog 252 #[.pointer (some ⟨q, 0, none⟩), .agg #[.string y.op, .int .i64 y.a, .int .i64 y.b, .int .i64 y.v]] w fun e w' => e = .returned (.int .i64 0) ∧ GP t rest q L v w (xs, true) w' := by
  obtain ⟨AV, cv, rfl⟩ := hs.form
  obtain ⟨w1, hw1⟩ : ∃ w1, w1 = w.alloc (.cells #[.string y.op, .int .i64 y.a, .int .i64 y.b, .int .i64 y.v] 40) := ⟨_, rfl⟩
  have B1 : Hid (Below w.heap.size w w1) := by unfold Hid; rw [hw1]; exact (Below.refl w.heap.size w).alloc (Nat.le_refl _) _
  have S1 : Hid (GS t rest q L xs true (.slice AV xs.length cv) w1) := hs.next B1.out
  have k0 := S1.out.c0
  have k1 := S1.out.c1
  have x24 : (xs.length : Int) < 24 := by omega
  have HW1 := Lib.hid hw1
  rw [hw1] at k0 k1
  clear hs hw1
  go_enter Try.func252, Try.ntmps252
  go_wp2
  go_ret
  rw [← HW1.out]
  exact ⟨rfl, _, S1.out, Fr.ofBelow B1.out, fun j hj => .inl hj⟩

theorem put_gen (t : TypeId) (rest : List Value) (q L : Nat) (s : List Nd × Bool) (v : Value) (y : Nd) (w : World) (hL : L ≤ w.heap.size) (hs : GS t rest q L s.1 s.2 v w) :
    Calls Try.prog 252 #[.pointer (some ⟨q, 0, none⟩), .agg #[.string y.op, .int .i64 y.a, .int .i64 y.b, .int .i64 y.v]] w fun e w' => e = .returned (.int .i64 (bp s y).2) ∧ GP t rest q L v w (bp s y).1 w' := by
  obtain ⟨xs, fl⟩ := s
  by_cases h : 24 ≤ xs.length
  · rw [show bp (xs, fl) y = ((xs, true), 0) by unfold bp; rw [if_pos h]]
    exact put_full t rest q L xs fl v y w h hs
  · cases fl
    · rw [show bp (xs, false) y = ((xs ++ [y], false), (xs.length : Int)) by unfold bp; rw [if_neg h, if_neg (by simp)]]
      exact put_new t rest q L xs v y w (by omega) hL hs
    · rw [show bp (xs, true) y = ((xs, true), 0) by unfold bp; rw [if_neg h, if_pos rfl]]
      exact put_failed t rest q L xs v y w (by omega) hs
end Go.Proofs.Ytmhdijklindipaa

/- A node with its operands placed by a walk that builds. -/
namespace Go.Proofs.Ytmhdijklindipaa
open Go.RowKit
set_option linter.unusedVariables false
set_option maxRecDepth 100000

/-- The node whose operands a walk places, one after the other. -/
def woN (T : Nat → List Nd × Bool → (List Nd × Bool) × Int) (n : Nd) (s : List Nd × Bool) : (List Nd × Bool) × Nd :=
  if ar n.op = 1 then ((T n.a.toNat s).1, ⟨n.op, (T n.a.toNat s).2, 0, n.v⟩)
  else if ar n.op = 2 then ((T n.b.toNat (T n.a.toNat s).1).1, ⟨n.op, (T n.a.toNat s).2, (T n.b.toNat (T n.a.toNat s).1).2, n.v⟩)
  else (s, ⟨n.op, 0, 0, n.v⟩)

theorem xn_fr {w w' : World} {g q : Nat} {r : Option Nat} {n : Nd} (h : XN w g n) (hf : Fr q r w w') (h1 : g ≠ q) (h2 : r ≠ some g) : XN w' g n := (hf.block g h.lt h1 h2).trans h

set_option maxHeartbeats 8000000 in
theorem withOperands_gen (fn : Nat) (T : Nat → List Nd × Bool → (List Nd × Bool) × Int) (t : TypeId) (rest : List Value) (q L C k : Nat) (n : Nd) (s : List Nd × Bool) (v : Value) (w0 w : World) (hn : isNode n k = true) (hC : C ≤ w0.heap.size) (hCq : C ≤ q) (hCL : C ≤ L) (hb0 : Below C w0 w) (hs : GS t rest q L s.1 s.2 v w) (hent : ∀ (args : Array Value) (W : World), Sem.run Try.prog (callFunc fn args) W = .ok (.enter fn args) W)
    (hcall : ∀ (a : Nat) (s : List Nd × Bool) (v : Value) (W : World), a < k → Below C w0 W → GS t rest q L s.1 s.2 v W → Calls Try.prog fn #[.pointer (some ⟨q, 0, none⟩), .int .i64 a] W fun e w' => e = .returned (.int .i64 (T a s).2) ∧ GP t rest q L v W (T a s).1 w') :
    Calls Try.prog 253 #[.agg #[.string n.op, .int .i64 n.a, .int .i64 n.b, .int .i64 n.v], .func (.func fn) #[.pointer (some ⟨q, 0, none⟩)] #[]] w fun e w' => e = .returned (.agg #[.string (woN T n s).2.op, .int .i64 (woN T n s).2.a, .int .i64 (woN T n s).2.b, .int .i64 (woN T n s).2.v]) ∧ GP t rest q L v w (woN T n s).1 w' := by
  obtain ⟨op, a, b, x⟩ := n
  dsimp only
  have hOc := Lib.hid fun W => operandCount_any op W
  obtain ⟨W1, hW1⟩ : ∃ W1, W1 = w.alloc (.cells #[.string op, .int .i64 a, .int .i64 b, .int .i64 x] 40) := ⟨_, rfl⟩
  have b1 : Below w.heap.size w W1 := by rw [hW1]; exact (Below.refl _ _).alloc (Nat.le_refl _) _
  have x1 : XN W1 w.heap.size ⟨op, a, b, x⟩ := by rw [hW1]; exact xn_new _ ⟨op, a, b, x⟩
  have z1 : W1.heap.size = w.heap.size + 1 := by rw [hW1]; simp
  obtain ⟨W2, hW2⟩ : ∃ W2, W2 = W1.alloc (.cells #[.string ⟨#[]⟩, .int .i64 0, .int .i64 0, .int .i64 0] 40) := ⟨_, rfl⟩
  have c2 : Below W1.heap.size W1 W2 := by rw [hW2]; exact (Below.refl _ _).alloc (Nat.le_refl _) _
  have x2 := Lib.hid (x1.next c2)
  have r2 : Hid (XN W2 (w.heap.size + 1) zeroNd) := by unfold Hid; rw [hW2, ← z1]; exact xn_new _ zeroNd
  have b2 := Lib.hid (b1.trans (c2.mono b1.size))
  have z2 : Hid (W2.heap.size = w.heap.size + 2) := by unfold Hid; rw [hW2]; simp [z1]
  have e2 : Hid (W2 = (w.alloc (.cells #[.string op, .int .i64 a, .int .i64 b, .int .i64 x] 40)).alloc (.cells #[.string ⟨#[]⟩, .int .i64 0, .int .i64 0, .int .i64 0] 40)) := by unfold Hid; rw [hW2, hW1]
  have hqs := hs.lt
  have G2 := Lib.hid (hs.next b2.out)
  have hCw : C ≤ w.heap.size := by have := hb0.size; omega
  have hB0 := Lib.hid hb0
  have B2 := Lib.hid (hb0.trans (b2.out.mono hCw))
  have own0 := Lib.hid fun j (hj : v.ownBlock = some j) => hs.own j hj
  have hcl := Lib.hid hcall
  clear hW1 hW2 b1 x1 z1 c2 hs hcall hb0
  obtain ⟨d0, d1, d2, d3⟩ := x2.out.cells
  rcases ar_cases_nd hn with ⟨h1, h2, h3, h4, h5⟩ | ⟨h1, h2, h3, h4, h5, h6⟩ | ⟨h1, h2, h3, h4, h5, h6, h7⟩
  · dsimp only at h1 h2 h3 h4 h5
    have hmv := Lib.hid (show woN T ⟨op, a, b, x⟩ s = (s, ⟨op, 0, 0, x⟩) by unfold woN; simp [h1])
    rw [hmv.out]
    subst h4; subst h5
    rw [h1] at hOc
    clear h1 h2 h3 hmv hcl hn
    have f0 := r2.out.fz 0
    have f1 := r2.out.fz 1
    have f2 := r2.out.fz 2
    have f3 := r2.out.fz 3
    obtain ⟨g0, g1, g2, g3⟩ := r2.out.cells
    have R := Lib.hid (r2.out.put4 ⟨op, 0, 0, x⟩)
    have RB := Lib.hid (below_put4 b2.out (g := w.heap.size + 1) (by omega) ⟨op, 0, 0, x⟩)
    have RG : Hid (GP t rest q L v w s (put4 W2 (w.heap.size + 1) ⟨op, 0, 0, x⟩)) := by
      have hne : w.heap.size + 1 ≠ q := by omega
      have hno : v.ownBlock ≠ some (w.heap.size + 1) := fun e => by have := own0.out _ e; omega
      refine ⟨v, ?_, ?_, fun j hj => .inl hj⟩
      · exact (((G2.out.other (p := ⟨_, 0, none⟩) hne hno _).other (p := ⟨_, 1, none⟩) hne hno _).other (p := ⟨_, 2, none⟩) hne hno _).other (p := ⟨_, 3, none⟩) hne hno _
      · exact Fr.ofBelow RB.out
    go_enter Try.func253, Try.ntmps253
    go_wp2_with (fail)
    rw [← e2.out]
    refine (hOc.out _).mono ?_
    rintro e w4 ⟨rfl, rfl⟩
    go_wp2
    exact node_ret rfl rfl R.out ⟨rfl, RG.out⟩
  · dsimp only at h1 h2 h3 h4 h5 h6
    obtain ⟨pa, rfl⟩ := Int.eq_ofNat_of_zero_le h4
    subst h6
    have hmv := Lib.hid (show woN T ⟨op, (pa : Int), 0, x⟩ s = ((T pa s).1, ⟨op, (T pa s).2, 0, x⟩) by unfold woN; simp [h1])
    rw [hmv.out]
    rw [h1] at hOc
    have hpam : pa < k := by omega
    have HA := Lib.hid (hcl.out pa s v W2 hpam B2.out G2.out)
    clear h1 h2 h3 hmv hcl hn
    generalize T pa s = ra at *
    obtain ⟨sa, va⟩ := ra
    dsimp only at HA ⊢
    go_enter Try.func253, Try.ntmps253
    go_wp2_with (fail)
    rw [← e2.out]
    refine (hOc.out _).mono ?_
    rintro e w4 ⟨rfl, rfl⟩
    go_wp2_with (fail)
    refine HA.out.mono ?_
    rintro e w5 ⟨rfl, v5, g5, f5, o5⟩
    have hne : w.heap.size ≠ q := by omega
    have hno : v.ownBlock ≠ some w.heap.size := fun e => by have := own0.out _ e; omega
    have hne1 : w.heap.size + 1 ≠ q := by omega
    have hno1 : v.ownBlock ≠ some (w.heap.size + 1) := fun e => by have := own0.out _ e; omega
    have hso : v5.ownBlock ≠ some w.heap.size := fun e => by
      rcases o5 _ e with e' | e'
      · exact hno e'
      · have := z2.out; omega
    have hso1 : v5.ownBlock ≠ some (w.heap.size + 1) := fun e => by
      rcases o5 _ e with e' | e'
      · exact hno1 e'
      · have := z2.out; omega
    have x5 := xn_fr x2.out f5 hne hno
    have r5 := xn_fr r2.out f5 hne1 hno1
    have f1' := x5.fz 1
    have x6 := x5.setA va
    have r6 := r5.other (q := w.heap.size) 1 (.int .i64 va) (by omega)
    have g6 := g5.other (p := ⟨w.heap.size, 1, none⟩) hne hso (.int .i64 va)
    have ff6 := ((Fr.ofBelow (q := q) (r := v.ownBlock) b2.out).trans f5 (fun j hj => .inl hj)).far (p := ⟨w.heap.size, 1, none⟩) (Nat.le_refl _) (.int .i64 va)
    obtain ⟨k0, k1, k2, k3⟩ := x5.cells
    obtain ⟨m0, m1, m2, m3⟩ := x6.cells
    have f0 := r6.fz 0
    have f1 := r6.fz 1
    have f2 := r6.fz 2
    have f3 := r6.fz 3
    obtain ⟨y0, y1, y2, y3⟩ := r6.cells
    have R := Lib.hid (r6.put4 ⟨op, va, 0, x⟩)
    have RG : Hid (GP t rest q L v w sa (put4 (w5.setCell ⟨w.heap.size, 1, none⟩ (.int .i64 va)) (w.heap.size + 1) ⟨op, va, 0, x⟩)) := by
      refine ⟨v5, ?_, ?_, fun j hj => ?_⟩
      · exact (((g6.other (p := ⟨_, 0, none⟩) hne1 hso1 _).other (p := ⟨_, 1, none⟩) hne1 hso1 _).other (p := ⟨_, 2, none⟩) hne1 hso1 _).other (p := ⟨_, 3, none⟩) hne1 hso1 _
      · exact (((ff6.far (p := ⟨_, 0, none⟩) (by simp) _).far (p := ⟨_, 1, none⟩) (by simp) _).far (p := ⟨_, 2, none⟩) (by simp) _).far (p := ⟨_, 3, none⟩) (by simp) _
      · rcases o5 j hj with e | e
        · exact .inl e
        · exact .inr (by have := z2.out; omega)
    clear x5 r5 x6 r6 g5 f5 o5 g6 ff6 hso hso1 d0 d1 d2 d3
    go_wp2
    exact node_ret rfl rfl R.out ⟨rfl, RG.out⟩
  · dsimp only at h1 h2 h3 h4 h5 h6 h7
    obtain ⟨pa, rfl⟩ := Int.eq_ofNat_of_zero_le h4
    obtain ⟨pb, rfl⟩ := Int.eq_ofNat_of_zero_le h6
    have hmv := Lib.hid (show woN T ⟨op, (pa : Int), (pb : Int), x⟩ s = ((T pb (T pa s).1).1, ⟨op, (T pa s).2, (T pb (T pa s).1).2, x⟩) by unfold woN; simp [h1])
    rw [hmv.out]
    rw [h1] at hOc
    have hpam : pa < k := by omega
    have hpbm : pb < k := by omega
    have HA := Lib.hid (hcl.out pa s v W2 hpam B2.out G2.out)
    have HB := Lib.hid (fun s v W => hcl.out pb s v W hpbm)
    clear h1 h2 h3 hmv hcl hn
    generalize T pa s = ra at *
    obtain ⟨sa, va⟩ := ra
    dsimp only at HA ⊢
    have HB1 := Lib.hid (fun v W => HB.out sa v W)
    clear HB
    generalize T pb sa = rb at *
    obtain ⟨sb, vb⟩ := rb
    dsimp only at HB1 ⊢
    go_enter Try.func253, Try.ntmps253
    go_wp2_with (fail)
    rw [← e2.out]
    refine (hOc.out _).mono ?_
    rintro e w4 ⟨rfl, rfl⟩
    go_wp2_with (fail)
    refine HA.out.mono ?_
    rintro e w5 ⟨rfl, v5, g5, f5, o5⟩
    have hne : w.heap.size ≠ q := by omega
    have hno : v.ownBlock ≠ some w.heap.size := fun e => by have := own0.out _ e; omega
    have hne1 : w.heap.size + 1 ≠ q := by omega
    have hno1 : v.ownBlock ≠ some (w.heap.size + 1) := fun e => by have := own0.out _ e; omega
    have hso : v5.ownBlock ≠ some w.heap.size := fun e => by
      rcases o5 _ e with e' | e'
      · exact hno e'
      · have := z2.out; omega
    have hso1 : v5.ownBlock ≠ some (w.heap.size + 1) := fun e => by
      rcases o5 _ e with e' | e'
      · exact hno1 e'
      · have := z2.out; omega
    have x5 := xn_fr x2.out f5 hne hno
    have r5 := xn_fr r2.out f5 hne1 hno1
    have f1' := x5.fz 1
    have x6 := Lib.hid (x5.setA va)
    have r6 := Lib.hid (r5.other (q := w.heap.size) 1 (.int .i64 va) (by omega))
    have g6 := Lib.hid (g5.other (p := ⟨w.heap.size, 1, none⟩) hne hso (.int .i64 va))
    have ff6 := Lib.hid (((Fr.ofBelow (q := q) (r := v.ownBlock) b2.out).trans f5 (fun j hj => .inl hj)).far (p := ⟨w.heap.size, 1, none⟩) (Nat.le_refl _) (.int .i64 va))
    have bb6 : Hid (Below C w0 (w5.setCell ⟨w.heap.size, 1, none⟩ (.int .i64 va))) := by
      unfold Hid
      exact hB0.out.trans (ff6.out.below hCw hCq (fun j hj => Nat.le_trans hCL (own0.out j hj).1))
    have o6 : Hid (∀ j, v5.ownBlock = some j → v.ownBlock = some j ∨ w.heap.size ≤ j) := fun j hj => by
      rcases o5 j hj with e | e
      · exact .inl e
      · exact .inr (by have := z2.out; omega)
    have s6 : Hid (w.heap.size + 2 ≤ (w5.setCell ⟨w.heap.size, 1, none⟩ (.int .i64 va)).heap.size) := by
      have h1 := f5.size; have h2 := z2.out; unfold Hid; simp [World.setCell]; omega
    obtain ⟨k0, k1, k2, k3⟩ := x5.cells
    clear x5 r5 g5 f5 o5 d0 d1 d2 d3
    obtain ⟨W6, hW6⟩ : ∃ W6, W6 = w5.setCell ⟨w.heap.size, 1, none⟩ (.int .i64 va) := ⟨_, rfl⟩
    rw [← hW6] at x6 r6 g6 ff6 bb6 s6
    have HW6 := Lib.hid hW6
    obtain ⟨m0, m1, m2, m3⟩ := x6.out.cells
    rw [hW6] at m2
    clear hW6 m0 m1 m3
    go_wp2_with (fail)
    rw [← HW6.out]
    refine (HB1.out v5 W6 bb6.out g6.out).mono ?_
    rintro e w7 ⟨rfl, v7, g7, f7, o7⟩
    clear k0 k1 k2 k3 m2 f1'
    have hto : v7.ownBlock ≠ some w.heap.size := fun e => by
      rcases o7 _ e with e' | e'
      · exact hso e'
      · have := s6.out; omega
    have hto1 : v7.ownBlock ≠ some (w.heap.size + 1) := fun e => by
      rcases o7 _ e with e' | e'
      · exact hso1 e'
      · have := s6.out; omega
    have x7 := xn_fr x6.out f7 hne hso
    have r7 := xn_fr r6.out f7 hne1 hso1
    have f2' := x7.fz 2
    have x8 := x7.setB vb
    have r8 := r7.other (q := w.heap.size) 2 (.int .i64 vb) (by omega)
    have g8 := g7.other (p := ⟨w.heap.size, 2, none⟩) hne hto (.int .i64 vb)
    have ff8 := (ff6.out.trans f7 (fun j hj => o6.out j hj)).far (p := ⟨w.heap.size, 2, none⟩) (Nat.le_refl _) (.int .i64 vb)
    obtain ⟨k0, k1, k2, k3⟩ := x7.cells
    obtain ⟨m0, m1, m2, m3⟩ := x8.cells
    have f0 := r8.fz 0
    have f1 := r8.fz 1
    have f2 := r8.fz 2
    have f3 := r8.fz 3
    obtain ⟨y0, y1, y2, y3⟩ := r8.cells
    have R := Lib.hid (r8.put4 ⟨op, va, vb, x⟩)
    have RG : Hid (GP t rest q L v w sb (put4 (w7.setCell ⟨w.heap.size, 2, none⟩ (.int .i64 vb)) (w.heap.size + 1) ⟨op, va, vb, x⟩)) := by
      refine ⟨v7, ?_, ?_, fun j hj => ?_⟩
      · exact (((g8.other (p := ⟨_, 0, none⟩) hne1 hto1 _).other (p := ⟨_, 1, none⟩) hne1 hto1 _).other (p := ⟨_, 2, none⟩) hne1 hto1 _).other (p := ⟨_, 3, none⟩) hne1 hto1 _
      · exact (((ff8.far (p := ⟨_, 0, none⟩) (by simp) _).far (p := ⟨_, 1, none⟩) (by simp) _).far (p := ⟨_, 2, none⟩) (by simp) _).far (p := ⟨_, 3, none⟩) (by simp) _
      · rcases o7 j hj with e | e
        · exact o6.out j e
        · exact .inr (by have := s6.out; omega)
    clear x7 r7 x8 r8 g7 f7 o7 g8 ff8 hto hto1
    go_wp2
    exact node_ret rfl rfl R.out ⟨rfl, RG.out⟩
end Go.Proofs.Ytmhdijklindipaa

/- A node with its operands placed by a walk that keeps any state. -/
namespace Go.Proofs.Ytmhdijklindipaa
open Go.RowKit
set_option linter.unusedVariables false
set_option maxRecDepth 100000

/-- What one world changes of another: the blocks of K and the row r alone. -/
structure FrK (K : Nat → Prop) (r : Option Nat) (w w' : World) : Prop where
  os : w'.os = w.os
  tape : w'.tape = w.tape
  output : w'.output = w.output
  size : w.heap.size ≤ w'.heap.size
  block : ∀ j, j < w.heap.size → ¬ K j → r ≠ some j → w'.heap[j]? = w.heap[j]?
theorem FrK.below {K : Nat → Prop} {B : Nat} {r : Option Nat} {w w' : World} (h : FrK K r w w') (hB : B ≤ w.heap.size) (hq : ∀ j, K j → B ≤ j) (hr : ∀ j, r = some j → B ≤ j) : Below B w w' :=
  ⟨h.os, h.tape, h.output, h.size, fun j hj => h.block j (by omega) (fun hk => by have := hq j hk; omega) (fun e => by have := hr j e; omega)⟩
theorem FrK.ofBelow {K : Nat → Prop} {r : Option Nat} {w w' : World} (h : Below w.heap.size w w') : FrK K r w w' := ⟨h.os, h.tape, h.output, h.size, fun j hj _ _ => h.block j hj⟩
theorem FrK.ofFr {K : Nat → Prop} {q : Nat} {r : Option Nat} {w w' : World} (h : Fr q r w w') (hq : K q) : FrK K r w w' := ⟨h.os, h.tape, h.output, h.size, fun j hj h1 h2 => h.block j hj (fun e => h1 (by rw [e]; exact hq)) h2⟩
theorem FrK.refl (K : Nat → Prop) (r : Option Nat) (w : World) : FrK K r w w := ⟨rfl, rfl, rfl, Nat.le_refl _, fun _ _ _ _ => rfl⟩
theorem FrK.trans {K : Nat → Prop} {r r' : Option Nat} {a b c : World} (h : FrK K r a b) (k : FrK K r' b c) (hr : ∀ j, r' = some j → r = some j ∨ a.heap.size ≤ j) : FrK K r a c :=
  ⟨k.os.trans h.os, k.tape.trans h.tape, k.output.trans h.output, Nat.le_trans h.size k.size, fun j hj h1 h2 =>
    (k.block j (Nat.lt_of_lt_of_le hj h.size) h1 (fun e => by rcases hr j e with e' | e'; exact h2 e'; omega)).trans (h.block j hj h1 h2)⟩
theorem FrK.set {K : Nat → Prop} {r : Option Nat} {a w : World} (h : FrK K r a w) {p : Addr} (hp : K p.block) (u : Value) : FrK K r a (w.setCell p u) :=
  ⟨h.os, h.tape, h.output, by simpa [World.setCell] using h.size, fun j hj h1 h2 => (Below.heap_setCell w p u j (fun e => h1 (by rw [e]; exact hp))).trans (h.block j hj h1 h2)⟩
theorem FrK.far {K : Nat → Prop} {r : Option Nat} {a w : World} (h : FrK K r a w) {p : Addr} (hp : a.heap.size ≤ p.block) (u : Value) : FrK K r a (w.setCell p u) :=
  ⟨h.os, h.tape, h.output, by simpa [World.setCell] using h.size, fun j hj h1 h2 => (Below.heap_setCell w p u j (by omega)).trans (h.block j hj h1 h2)⟩
theorem FrK.drew {K : Nat → Prop} {r : Option Nat} {a w : World} (h : FrK K r a w) : FrK K r a w.drew := ⟨h.os, h.tape, h.output, h.size, h.block⟩
theorem xn_frK {w w' : World} {g : Nat} {K : Nat → Prop} {r : Option Nat} {n : Nd} (h : XN w g n) (hf : FrK K r w w') (h1 : ¬ K g) (h2 : r ≠ some g) : XN w' g n := (hf.block g h.lt h1 h2).trans h

/-- What is asked of a state that lies in the blocks of K and in the row of v. -/
structure StOk {σ : Type} (K : Nat → Prop) (L : Nat) (St : σ → Value → World → Prop) : Prop where
  lt : ∀ s v w, St s v w → ∀ j, K j → j < w.heap.size
  own : ∀ s v w, St s v w → ∀ j, v.ownBlock = some j → L ≤ j ∧ j < w.heap.size
  keep : ∀ s v w w', St s v w → (∀ j, K j → w'.heap[j]? = w.heap[j]?) → (∀ j, v.ownBlock = some j → w'.heap[j]? = w.heap[j]?) → St s v w'
theorem StOk.next {σ : Type} {K : Nat → Prop} {L : Nat} {St : σ → Value → World → Prop} (O : StOk K L St) {s : σ} {v : Value} {w w' : World} (h : St s v w) (hb : Below w.heap.size w w') : St s v w' :=
  O.keep s v w w' h (fun j hj => hb.block j (O.lt s v w h j hj)) (fun j hj => hb.block j (O.own s v w h j hj).2)
theorem StOk.other {σ : Type} {K : Nat → Prop} {L : Nat} {St : σ → Value → World → Prop} (O : StOk K L St) {s : σ} {v : Value} {w : World} (h : St s v w) {p : Addr} (h1 : ¬ K p.block) (h2 : v.ownBlock ≠ some p.block) (u : Value) : St s v (w.setCell p u) :=
  O.keep s v w _ h (fun j hj => Below.heap_setCell w p u j (fun e => h1 (by rw [← e]; exact hj))) (fun j hj => Below.heap_setCell w p u j (fun e => h2 (by rw [hj, e])))
/-- What a call leaves of a state. -/
def SP {σ : Type} (K : Nat → Prop) (St : σ → Value → World → Prop) (v : Value) (w : World) (s : σ) (w' : World) : Prop :=
  ∃ v', St s v' w' ∧ FrK K v.ownBlock w w' ∧ ∀ j, v'.ownBlock = some j → v.ownBlock = some j ∨ w.heap.size ≤ j
theorem SP.trans {σ : Type} {K : Nat → Prop} {St : σ → Value → World → Prop} {v v1 : Value} {w w1 w2 : World} {s : σ} (h1 : FrK K v.ownBlock w w1) (h2 : ∀ j, v1.ownBlock = some j → v.ownBlock = some j ∨ w.heap.size ≤ j) (h : SP K St v1 w1 s w2) : SP K St v w s w2 := by
  obtain ⟨v2, g, f, o⟩ := h
  refine ⟨v2, g, h1.trans f h2, fun j hj => ?_⟩
  rcases o j hj with e | e
  · exact h2 j e
  · exact .inr (Nat.le_trans h1.size e)
def woG {σ : Type} (T : Nat → σ → σ × Int) (n : Nd) (s : σ) : σ × Nd :=
  if ar n.op = 1 then ((T n.a.toNat s).1, ⟨n.op, (T n.a.toNat s).2, 0, n.v⟩)
  else if ar n.op = 2 then ((T n.b.toNat (T n.a.toNat s).1).1, ⟨n.op, (T n.a.toNat s).2, (T n.b.toNat (T n.a.toNat s).1).2, n.v⟩)
  else (s, ⟨n.op, 0, 0, n.v⟩)

set_option maxHeartbeats 8000000 in
theorem withOperands_abs {σ : Type} (fn : Nat) (T : Nat → σ → σ × Int) (I : σ → Prop) (K : Nat → Prop) (L C k q : Nat) (St : σ → Value → World → Prop) (O : StOk K L St) (n : Nd) (s : σ) (v : Value) (w0 w : World) (hn : isNode n k = true) (hC : C ≤ w0.heap.size) (hCK : ∀ j, K j → C ≤ j) (hCL : C ≤ L) (hb0 : Below C w0 w) (hs : St s v w) (hI : I s) (hent : ∀ (args : Array Value) (W : World), Sem.run Try.prog (callFunc fn args) W = .ok (.enter fn args) W)
    (hTI : ∀ a s, a < k → I s → I (T a s).1)
    (hcall : ∀ (a : Nat) (s : σ) (v : Value) (W : World), a < k → I s → Below C w0 W → St s v W → Calls Try.prog fn #[.pointer (some ⟨q, 0, none⟩), .int .i64 a] W fun e w' => e = .returned (.int .i64 (T a s).2) ∧ SP K St v W (T a s).1 w') :
    Calls Try.prog 253 #[.agg #[.string n.op, .int .i64 n.a, .int .i64 n.b, .int .i64 n.v], .func (.func fn) #[.pointer (some ⟨q, 0, none⟩)] #[]] w fun e w' => e = .returned (.agg #[.string (woG T n s).2.op, .int .i64 (woG T n s).2.a, .int .i64 (woG T n s).2.b, .int .i64 (woG T n s).2.v]) ∧ SP K St v w (woG T n s).1 w' := by
  obtain ⟨op, a, b, x⟩ := n
  dsimp only
  have hOc := Lib.hid fun W => operandCount_any op W
  obtain ⟨W1, hW1⟩ : ∃ W1, W1 = w.alloc (.cells #[.string op, .int .i64 a, .int .i64 b, .int .i64 x] 40) := ⟨_, rfl⟩
  have b1 : Below w.heap.size w W1 := by rw [hW1]; exact (Below.refl _ _).alloc (Nat.le_refl _) _
  have x1 : XN W1 w.heap.size ⟨op, a, b, x⟩ := by rw [hW1]; exact xn_new _ ⟨op, a, b, x⟩
  have z1 : W1.heap.size = w.heap.size + 1 := by rw [hW1]; simp
  obtain ⟨W2, hW2⟩ : ∃ W2, W2 = W1.alloc (.cells #[.string ⟨#[]⟩, .int .i64 0, .int .i64 0, .int .i64 0] 40) := ⟨_, rfl⟩
  have c2 : Below W1.heap.size W1 W2 := by rw [hW2]; exact (Below.refl _ _).alloc (Nat.le_refl _) _
  have x2 := Lib.hid (x1.next c2)
  have r2 : Hid (XN W2 (w.heap.size + 1) zeroNd) := by unfold Hid; rw [hW2, ← z1]; exact xn_new _ zeroNd
  have b2 := Lib.hid (b1.trans (c2.mono b1.size))
  have z2 : Hid (W2.heap.size = w.heap.size + 2) := by unfold Hid; rw [hW2]; simp [z1]
  have e2 : Hid (W2 = (w.alloc (.cells #[.string op, .int .i64 a, .int .i64 b, .int .i64 x] 40)).alloc (.cells #[.string ⟨#[]⟩, .int .i64 0, .int .i64 0, .int .i64 0] 40)) := by unfold Hid; rw [hW2, hW1]
  have hqs := fun j hj => O.lt s v w hs j hj
  have G2 := Lib.hid (O.next hs b2.out)
  have hCw : C ≤ w.heap.size := by have := hb0.size; omega
  have hB0 := Lib.hid hb0
  have B2 := Lib.hid (hb0.trans (b2.out.mono hCw))
  have own0 := Lib.hid fun j (hj : v.ownBlock = some j) => O.own s v w hs j hj
  have hne : ¬ K w.heap.size := fun h => by have := hqs _ h; omega
  have hne1 : ¬ K (w.heap.size + 1) := fun h => by have := hqs _ h; omega
  have hKO := Lib.hid O
  have hII := Lib.hid hI
  have hTT := Lib.hid hTI
  have hcl := Lib.hid hcall
  clear hW1 hW2 b1 x1 z1 c2 hs hcall hb0 hqs hTI hI
  obtain ⟨d0, d1, d2, d3⟩ := x2.out.cells
  rcases ar_cases_nd hn with ⟨h1, h2, h3, h4, h5⟩ | ⟨h1, h2, h3, h4, h5, h6⟩ | ⟨h1, h2, h3, h4, h5, h6, h7⟩
  · dsimp only at h1 h2 h3 h4 h5
    have hmv := Lib.hid (show woG T ⟨op, a, b, x⟩ s = (s, ⟨op, 0, 0, x⟩) by unfold woG; simp [h1])
    rw [hmv.out]
    subst h4; subst h5
    rw [h1] at hOc
    clear h1 h2 h3 hmv hcl hn
    have f0 := r2.out.fz 0
    have f1 := r2.out.fz 1
    have f2 := r2.out.fz 2
    have f3 := r2.out.fz 3
    obtain ⟨g0, g1, g2, g3⟩ := r2.out.cells
    have R := Lib.hid (r2.out.put4 ⟨op, 0, 0, x⟩)
    have RB := Lib.hid (below_put4 b2.out (g := w.heap.size + 1) (by omega) ⟨op, 0, 0, x⟩)
    have RG : Hid (SP K St v w s (put4 W2 (w.heap.size + 1) ⟨op, 0, 0, x⟩)) := by
      have hno : v.ownBlock ≠ some (w.heap.size + 1) := fun e => by have := own0.out _ e; omega
      refine ⟨v, ?_, ?_, fun j hj => .inl hj⟩
      · exact hKO.out.other (p := ⟨w.heap.size + 1, 3, none⟩) (hKO.out.other (p := ⟨w.heap.size + 1, 2, none⟩) (hKO.out.other (p := ⟨w.heap.size + 1, 1, none⟩) (hKO.out.other (p := ⟨w.heap.size + 1, 0, none⟩) G2.out hne1 hno _) hne1 hno _) hne1 hno _) hne1 hno _
      · exact FrK.ofBelow RB.out
    go_enter Try.func253, Try.ntmps253
    go_wp2_with (fail)
    rw [← e2.out]
    refine (hOc.out _).mono ?_
    rintro e w4 ⟨rfl, rfl⟩
    go_wp2
    exact node_ret rfl rfl R.out ⟨rfl, RG.out⟩
  · dsimp only at h1 h2 h3 h4 h5 h6
    obtain ⟨pa, rfl⟩ := Int.eq_ofNat_of_zero_le h4
    subst h6
    have hmv := Lib.hid (show woG T ⟨op, (pa : Int), 0, x⟩ s = ((T pa s).1, ⟨op, (T pa s).2, 0, x⟩) by unfold woG; simp [h1])
    rw [hmv.out]
    rw [h1] at hOc
    have hpam : pa < k := by omega
    have HA := Lib.hid (hcl.out pa s v W2 hpam hII.out B2.out G2.out)
    clear h1 h2 h3 hmv hcl hn
    generalize T pa s = ra at *
    obtain ⟨sa, va⟩ := ra
    dsimp only at HA ⊢
    go_enter Try.func253, Try.ntmps253
    go_wp2_with (fail)
    rw [← e2.out]
    refine (hOc.out _).mono ?_
    rintro e w4 ⟨rfl, rfl⟩
    go_wp2_with (fail)
    refine HA.out.mono ?_
    rintro e w5 ⟨rfl, v5, g5, f5, o5⟩
    have hno : v.ownBlock ≠ some w.heap.size := fun e => by have := own0.out _ e; omega
    have hno1 : v.ownBlock ≠ some (w.heap.size + 1) := fun e => by have := own0.out _ e; omega
    have hso : v5.ownBlock ≠ some w.heap.size := fun e => by
      rcases o5 _ e with e' | e'
      · exact hno e'
      · have := z2.out; omega
    have hso1 : v5.ownBlock ≠ some (w.heap.size + 1) := fun e => by
      rcases o5 _ e with e' | e'
      · exact hno1 e'
      · have := z2.out; omega
    have x5 := xn_frK x2.out f5 hne hno
    have r5 := xn_frK r2.out f5 hne1 hno1
    have f1' := x5.fz 1
    have x6 := x5.setA va
    have r6 := r5.other (q := w.heap.size) 1 (.int .i64 va) (by omega)
    have g6 := hKO.out.other (p := ⟨w.heap.size, 1, none⟩) g5 hne hso (.int .i64 va)
    have ff6 := ((FrK.ofBelow (K := K) (r := v.ownBlock) b2.out).trans f5 (fun j hj => .inl hj)).far (p := ⟨w.heap.size, 1, none⟩) (Nat.le_refl _) (.int .i64 va)
    obtain ⟨k0, k1, k2, k3⟩ := x5.cells
    obtain ⟨m0, m1, m2, m3⟩ := x6.cells
    have f0 := r6.fz 0
    have f1 := r6.fz 1
    have f2 := r6.fz 2
    have f3 := r6.fz 3
    obtain ⟨y0, y1, y2, y3⟩ := r6.cells
    have R := Lib.hid (r6.put4 ⟨op, va, 0, x⟩)
    have RG : Hid (SP K St v w sa (put4 (w5.setCell ⟨w.heap.size, 1, none⟩ (.int .i64 va)) (w.heap.size + 1) ⟨op, va, 0, x⟩)) := by
      refine ⟨v5, ?_, ?_, fun j hj => ?_⟩
      · exact hKO.out.other (p := ⟨w.heap.size + 1, 3, none⟩) (hKO.out.other (p := ⟨w.heap.size + 1, 2, none⟩) (hKO.out.other (p := ⟨w.heap.size + 1, 1, none⟩) (hKO.out.other (p := ⟨w.heap.size + 1, 0, none⟩) g6 hne1 hso1 _) hne1 hso1 _) hne1 hso1 _) hne1 hso1 _
      · exact (((ff6.far (p := ⟨_, 0, none⟩) (by simp) _).far (p := ⟨_, 1, none⟩) (by simp) _).far (p := ⟨_, 2, none⟩) (by simp) _).far (p := ⟨_, 3, none⟩) (by simp) _
      · rcases o5 j hj with e | e
        · exact .inl e
        · exact .inr (by have := z2.out; omega)
    clear x5 r5 x6 r6 g5 f5 o5 g6 ff6 hso hso1 d0 d1 d2 d3
    go_wp2
    exact node_ret rfl rfl R.out ⟨rfl, RG.out⟩
  · dsimp only at h1 h2 h3 h4 h5 h6 h7
    obtain ⟨pa, rfl⟩ := Int.eq_ofNat_of_zero_le h4
    obtain ⟨pb, rfl⟩ := Int.eq_ofNat_of_zero_le h6
    have hmv := Lib.hid (show woG T ⟨op, (pa : Int), (pb : Int), x⟩ s = ((T pb (T pa s).1).1, ⟨op, (T pa s).2, (T pb (T pa s).1).2, x⟩) by unfold woG; simp [h1])
    rw [hmv.out]
    rw [h1] at hOc
    have hpam : pa < k := by omega
    have hpbm : pb < k := by omega
    have HA := Lib.hid (hcl.out pa s v W2 hpam hII.out B2.out G2.out)
    have HB := Lib.hid (fun s v W hi => hcl.out pb s v W hpbm hi)
    have hIa := Lib.hid (hTT.out pa s hpam hII.out)
    clear h1 h2 h3 hmv hcl hn
    generalize T pa s = ra at *
    obtain ⟨sa, va⟩ := ra
    dsimp only at HA ⊢
    have HB1 := Lib.hid (fun v W => HB.out sa v W hIa.out)
    clear HB
    generalize T pb sa = rb at *
    obtain ⟨sb, vb⟩ := rb
    dsimp only at HB1 ⊢
    go_enter Try.func253, Try.ntmps253
    go_wp2_with (fail)
    rw [← e2.out]
    refine (hOc.out _).mono ?_
    rintro e w4 ⟨rfl, rfl⟩
    go_wp2_with (fail)
    refine HA.out.mono ?_
    rintro e w5 ⟨rfl, v5, g5, f5, o5⟩
    have hno : v.ownBlock ≠ some w.heap.size := fun e => by have := own0.out _ e; omega
    have hno1 : v.ownBlock ≠ some (w.heap.size + 1) := fun e => by have := own0.out _ e; omega
    have hso : v5.ownBlock ≠ some w.heap.size := fun e => by
      rcases o5 _ e with e' | e'
      · exact hno e'
      · have := z2.out; omega
    have hso1 : v5.ownBlock ≠ some (w.heap.size + 1) := fun e => by
      rcases o5 _ e with e' | e'
      · exact hno1 e'
      · have := z2.out; omega
    have x5 := xn_frK x2.out f5 hne hno
    have r5 := xn_frK r2.out f5 hne1 hno1
    have f1' := x5.fz 1
    have x6 := Lib.hid (x5.setA va)
    have r6 := Lib.hid (r5.other (q := w.heap.size) 1 (.int .i64 va) (by omega))
    have g6 := Lib.hid (hKO.out.other (p := ⟨w.heap.size, 1, none⟩) g5 hne hso (.int .i64 va))
    have ff6 := Lib.hid (((FrK.ofBelow (K := K) (r := v.ownBlock) b2.out).trans f5 (fun j hj => .inl hj)).far (p := ⟨w.heap.size, 1, none⟩) (Nat.le_refl _) (.int .i64 va))
    have bb6 : Hid (Below C w0 (w5.setCell ⟨w.heap.size, 1, none⟩ (.int .i64 va))) := by
      unfold Hid
      exact hB0.out.trans (ff6.out.below hCw hCK (fun j hj => Nat.le_trans hCL (own0.out j hj).1))
    have o6 : Hid (∀ j, v5.ownBlock = some j → v.ownBlock = some j ∨ w.heap.size ≤ j) := fun j hj => by
      rcases o5 j hj with e | e
      · exact .inl e
      · exact .inr (by have := z2.out; omega)
    have s6 : Hid (w.heap.size + 2 ≤ (w5.setCell ⟨w.heap.size, 1, none⟩ (.int .i64 va)).heap.size) := by
      have h1 := f5.size; have h2 := z2.out; unfold Hid; simp [World.setCell]; omega
    obtain ⟨k0, k1, k2, k3⟩ := x5.cells
    clear x5 r5 g5 f5 o5 d0 d1 d2 d3
    obtain ⟨W6, hW6⟩ : ∃ W6, W6 = w5.setCell ⟨w.heap.size, 1, none⟩ (.int .i64 va) := ⟨_, rfl⟩
    rw [← hW6] at x6 r6 g6 ff6 bb6 s6
    have HW6 := Lib.hid hW6
    obtain ⟨m0, m1, m2, m3⟩ := x6.out.cells
    rw [hW6] at m2
    clear hW6 m0 m1 m3
    go_wp2_with (fail)
    rw [← HW6.out]
    refine (HB1.out v5 W6 bb6.out g6.out).mono ?_
    rintro e w7 ⟨rfl, v7, g7, f7, o7⟩
    clear k0 k1 k2 k3 m2 f1'
    have hto : v7.ownBlock ≠ some w.heap.size := fun e => by
      rcases o7 _ e with e' | e'
      · exact hso e'
      · have := s6.out; omega
    have hto1 : v7.ownBlock ≠ some (w.heap.size + 1) := fun e => by
      rcases o7 _ e with e' | e'
      · exact hso1 e'
      · have := s6.out; omega
    have x7 := xn_frK x6.out f7 hne hso
    have r7 := xn_frK r6.out f7 hne1 hso1
    have f2' := x7.fz 2
    have x8 := x7.setB vb
    have r8 := r7.other (q := w.heap.size) 2 (.int .i64 vb) (by omega)
    have g8 := hKO.out.other (p := ⟨w.heap.size, 2, none⟩) g7 hne hto (.int .i64 vb)
    have ff8 := (ff6.out.trans f7 (fun j hj => o6.out j hj)).far (p := ⟨w.heap.size, 2, none⟩) (Nat.le_refl _) (.int .i64 vb)
    obtain ⟨k0, k1, k2, k3⟩ := x7.cells
    obtain ⟨m0, m1, m2, m3⟩ := x8.cells
    have f0 := r8.fz 0
    have f1 := r8.fz 1
    have f2 := r8.fz 2
    have f3 := r8.fz 3
    obtain ⟨y0, y1, y2, y3⟩ := r8.cells
    have R := Lib.hid (r8.put4 ⟨op, va, vb, x⟩)
    have RG : Hid (SP K St v w sb (put4 (w7.setCell ⟨w.heap.size, 2, none⟩ (.int .i64 vb)) (w.heap.size + 1) ⟨op, va, vb, x⟩)) := by
      refine ⟨v7, ?_, ?_, fun j hj => ?_⟩
      · exact hKO.out.other (p := ⟨w.heap.size + 1, 3, none⟩) (hKO.out.other (p := ⟨w.heap.size + 1, 2, none⟩) (hKO.out.other (p := ⟨w.heap.size + 1, 1, none⟩) (hKO.out.other (p := ⟨w.heap.size + 1, 0, none⟩) g8 hne1 hto1 _) hne1 hto1 _) hne1 hto1 _) hne1 hto1 _
      · exact (((ff8.far (p := ⟨_, 0, none⟩) (by simp) _).far (p := ⟨_, 1, none⟩) (by simp) _).far (p := ⟨_, 2, none⟩) (by simp) _).far (p := ⟨_, 3, none⟩) (by simp) _
      · rcases o7 j hj with e | e
        · exact o6.out j e
        · exact .inr (by have := s6.out; omega)
    clear x7 r7 x8 r8 g7 f7 o7 g8 ff8 hto hto1
    go_wp2
    exact node_ret rfl rfl R.out ⟨rfl, RG.out⟩
end Go.Proofs.Ytmhdijklindipaa

/- Tables and inputs. No program. -/
namespace Go.Proofs.Ytmhdijklindipaa
open Go.RowKit
set_option linter.unusedVariables false

/-- A list of f's values at the first n inputs. -/
def tabTo (f : Int → Int → Int) (n : Nat) : List Int := (List.range n).map fun i => f ((i / 64 : Nat) : Int) ((i % 64 : Nat) : Int)
theorem tabTo_len (f : Int → Int → Int) (n : Nat) : (tabTo f n).length = n := by simp [tabTo]
theorem tabTo_succ (f : Int → Int → Int) (k j : Nat) (h : j < 64) : tabTo f (64 * k + (j + 1)) = tabTo f (64 * k + j) ++ [f k j] := by
  unfold tabTo
  rw [← Nat.add_assoc, List.range_succ, List.map_append]
  have h1 : (64 * k + j) / 64 = k := by omega
  have h2 : (64 * k + j) % 64 = j := by omega
  simp only [List.map_cons, List.map_nil, h1, h2]
theorem tabTo_next (f : Int → Int → Int) (k : Nat) : tabTo f (64 * k + 64) = tabTo f (64 * (k + 1) + 0) := by
  rw [Nat.mul_add]

def inStep (out : List Int) (n : Nd) : List Int := if isIn n.op = true then put out n.v else out
def inTo (es : List Nd) (k : Nat) : List Int := (es.take k).foldl inStep []
def isInp (n : Nd) (k : Int) : Bool := isIn n.op && n.v == k
def hasIn (es : List Nd) (k : Int) : Bool := es.any fun n => isInp n k
def twoOf (a b : Bool) : List Int := (if a = true then [0] else []) ++ (if b = true then [1] else [])
theorem inTo_succ {es : List Nd} {k : Nat} (h : k < es.length) : inTo es (k + 1) = inStep (inTo es k) es[k] := by
  unfold inTo; rw [List.take_succ_eq_append_getElem h, List.foldl_append]; rfl
theorem hasIn_snoc {es : List Nd} {k : Nat} (h : k < es.length) (q : Int) : hasIn (es.take (k + 1)) q = (hasIn (es.take k) q || isInp es[k] q) := by
  unfold hasIn; rw [List.take_succ_eq_append_getElem h, List.any_append]; simp
theorem inTo_eq {es : List Nd} (hok : ∀ k (h : k < es.length), isIn es[k].op = true → es[k].v = 0 ∨ es[k].v = 1) : ∀ k, k ≤ es.length → inTo es k = twoOf (hasIn (es.take k) 0) (hasIn (es.take k) 1) := by
  intro k
  induction k with
  | zero => intro _; rfl
  | succ k ih =>
    intro hk
    rw [inTo_succ (by omega), hasIn_snoc (by omega), hasIn_snoc (by omega), ih (by omega)]
    have hv := hok k (by omega)
    generalize es[k] = n at *
    generalize hasIn (es.take k) 0 = a
    generalize hasIn (es.take k) 1 = b
    unfold inStep isInp
    cases hn : isIn n.op
    · simp
    · rcases hv hn with h | h <;> rw [h] <;> cases a <;> cases b <;> decide
theorem twoOf_len (a b : Bool) : (twoOf a b).length ≤ 2 := by cases a <;> cases b <;> decide
end Go.Proofs.Ytmhdijklindipaa

/- First places, counts, sums of bits, least and greatest ones over an index. No program. -/
namespace Go.Proofs.Ytmhdijklindipaa
open Go.RowKit
set_option linter.unusedVariables false

/-- The first index below n at which p holds, or -1. -/
def firstI (p : Nat → Bool) (n : Nat) : Int := match (List.range n).find? p with | some k => (k : Int) | none => -1
theorem firstI_none {p : Nat → Bool} {n : Nat} (h : ∀ i, i < n → p i = false) : firstI p n = -1 := by
  unfold firstI
  have : (List.range n).find? p = none := by
    rw [List.find?_eq_none]; intro x hx; rw [h x (by simpa using hx)]; simp
  rw [this]
theorem firstI_some {p : Nat → Bool} {n k : Nat} (hk : k < n) (hp : p k = true) (h : ∀ i, i < k → p i = false) : firstI p n = k := by
  unfold firstI
  have : (List.range n).find? p = some k := by
    rw [List.find?_range_eq_some]
    exact ⟨hp, by simpa using hk, fun j hj => by simp [h j hj]⟩
  rw [this]
theorem firstI_cases (p : Nat → Bool) (n : Nat) : (firstI p n = -1 ∧ ∀ i, i < n → p i = false) ∨ ∃ k : Nat, k < n ∧ firstI p n = k ∧ p k = true ∧ ∀ i, i < k → p i = false := by
  induction n with
  | zero => exact .inl ⟨rfl, fun i hi => absurd hi (Nat.not_lt_zero _)⟩
  | succ n ih =>
    rcases ih with ⟨_, h2⟩ | ⟨k, hk, _, hp, h2⟩
    · cases hn : p n
      · have h3 : ∀ i, i < n + 1 → p i = false := fun i hi => by
          by_cases e : i = n
          · rw [e]; exact hn
          · exact h2 i (by omega)
        exact .inl ⟨firstI_none h3, h3⟩
      · exact .inr ⟨n, by omega, firstI_some (by omega) hn h2, hn, h2⟩
    · exact .inr ⟨k, by omega, firstI_some (by omega) hp h2, hp, h2⟩
theorem firstI_ext {p q : Nat → Bool} {n : Nat} (h : ∀ i, i < n → p i = q i) : firstI p n = firstI q n := by
  rcases firstI_cases p n with ⟨h1, h2⟩ | ⟨k, hk, h1, hp, h2⟩
  · rw [h1, firstI_none fun i hi => by rw [← h i hi]; exact h2 i hi]
  · rw [h1, firstI_some hk (by rw [← h k hk]; exact hp) fun i hi => by rw [← h i (by omega)]; exact h2 i hi]
theorem firstI_neg {p : Nat → Bool} {n : Nat} : firstI p n < 0 ↔ ∀ i, i < n → p i = false := by
  rcases firstI_cases p n with ⟨h1, h2⟩ | ⟨k, hk, h1, hp, h2⟩
  · rw [h1]; exact ⟨fun _ => h2, fun _ => by decide⟩
  · rw [h1]; constructor
    · intro h; omega
    · intro h; rw [h k hk] at hp; cases hp
theorem firstI_bd (p : Nat → Bool) (n : Nat) : -1 ≤ firstI p n ∧ firstI p n < n := by
  rcases firstI_cases p n with ⟨h1, _⟩ | ⟨k, hk, h1, _, _⟩ <;> rw [h1] <;> omega

def countI (p : Nat → Bool) : Nat → Int
  | 0 => 0
  | n + 1 => countI p n + (if p n = true then 1 else 0)
theorem countI_bd (p : Nat → Bool) (n : Nat) : 0 ≤ countI p n ∧ countI p n ≤ n := by
  induction n with
  | zero => simp [countI]
  | succ n ih => rw [countI]; split <;> omega
theorem countI_ext {p q : Nat → Bool} : ∀ {n : Nat}, (∀ i, i < n → p i = q i) → countI p n = countI q n
  | 0, _ => rfl
  | n + 1, h => by rw [countI, countI, h n (by omega), countI_ext (n := n) (fun i hi => h i (by omega))]
theorem countI_yes {p : Nat → Bool} {n : Nat} (h : p n = true) : countI p (n + 1) = countI p n + 1 := by rw [countI, h]; rfl
theorem countI_no {p : Nat → Bool} {n : Nat} (h : p n = false) : countI p (n + 1) = countI p n := by rw [countI, h]; simp

def orI (f : Nat → Int) : Nat → Int
  | 0 => 0
  | n + 1 => bits .or .i64 (orI f n) (f n)
theorem orI_bd {f : Nat → Int} : ∀ {n : Nat}, (∀ i, i < n → 0 ≤ f i ∧ f i ≤ 63) → 0 ≤ orI f n ∧ orI f n ≤ 63
  | 0, _ => ⟨Int.le_refl _, by show (0 : Int) ≤ 63; omega⟩
  | n + 1, h => by
    have h1 := orI_bd (n := n) fun i hi => h i (by omega)
    have h2 := h n (by omega)
    exact bor_bd _ _ h1.1 h1.2 h2.1 h2.2
theorem orI_ext {f g : Nat → Int} : ∀ {n : Nat}, (∀ i, i < n → f i = g i) → orI f n = orI g n
  | 0, _ => rfl
  | n + 1, h => by rw [orI, orI, h n (by omega), orI_ext (n := n) (fun i hi => h i (by omega))]

theorem ofInt_inj {a b : Int} (h0 : 0 ≤ a) (h1 : a ≤ 63) (h2 : 0 ≤ b) (h3 : b ≤ 63) (h : BitVec.ofInt 64 a = BitVec.ofInt 64 b) : a = b := by
  have := congrArg BitVec.toNat h
  rw [BitVec.toNat_ofInt, BitVec.toNat_ofInt] at this
  omega
theorem wrap_zero {n : Nat} (h : n < 2 ^ 6) : IntKind.i64.wrap (n : Int) = 0 ↔ n = 0 := by rw [IntKind.wrap_i64]; omega
theorem bxor_zero {a b : Int} (h0 : 0 ≤ a) (h1 : a ≤ 63) (h2 : 0 ≤ b) (h3 : b ≤ 63) : bits .xor .i64 a b = 0 ↔ a = b := by
  have hs : (BitVec.ofInt 64 a ^^^ BitVec.ofInt 64 b).toNat < 2 ^ 6 := by rw [BitVec.toNat_xor]; exact Nat.xor_lt_two_pow (small64 a h0 h1) (small64 b h2 h3)
  show IntKind.i64.wrap (((BitVec.ofInt 64 a ^^^ BitVec.ofInt 64 b).toNat : Nat) : Int) = 0 ↔ a = b
  rw [wrap_zero hs]
  constructor
  · intro h
    have h' : BitVec.ofInt 64 a ^^^ BitVec.ofInt 64 b = 0#64 := by apply BitVec.eq_of_toNat_eq; simpa using h
    exact ofInt_inj h0 h1 h2 h3 (BitVec.xor_eq_zero_iff.1 h')
  · intro h; subst h; simp
theorem bor_zero {a b : Int} (h0 : 0 ≤ a) (h1 : a ≤ 63) (h2 : 0 ≤ b) (h3 : b ≤ 63) : bits .or .i64 a b = 0 ↔ a = 0 ∧ b = 0 := by
  have hs : (BitVec.ofInt 64 a ||| BitVec.ofInt 64 b).toNat < 2 ^ 6 := by rw [BitVec.toNat_or]; exact Nat.or_lt_two_pow (small64 a h0 h1) (small64 b h2 h3)
  show IntKind.i64.wrap (((BitVec.ofInt 64 a ||| BitVec.ofInt 64 b).toNat : Nat) : Int) = 0 ↔ a = 0 ∧ b = 0
  rw [wrap_zero hs]
  constructor
  · intro h
    have h' : BitVec.ofInt 64 a ||| BitVec.ofInt 64 b = 0#64 := by apply BitVec.eq_of_toNat_eq; simpa using h
    rw [BitVec.or_eq_zero_iff] at h'
    exact ⟨ofInt_inj h0 h1 (by omega) (by omega) h'.1, ofInt_inj h2 h3 (by omega) (by omega) h'.2⟩
  · rintro ⟨rfl, rfl⟩; simp
theorem orI_zero {f : Nat → Int} : ∀ {n : Nat}, (∀ i, i < n → 0 ≤ f i ∧ f i ≤ 63) → (orI f n = 0 ↔ ∀ i, i < n → f i = 0)
  | 0, _ => by simp [orI]
  | n + 1, h => by
    have h1 := orI_bd (n := n) fun i hi => h i (by omega)
    have h2 := h n (by omega)
    rw [orI, bor_zero h1.1 h1.2 h2.1 h2.2, orI_zero (n := n) fun i hi => h i (by omega)]
    constructor
    · rintro ⟨a, b⟩ i hi
      by_cases e : i = n
      · rw [e]; exact b
      · exact a i (by omega)
    · intro a; exact ⟨fun i hi => a i (by omega), a n (by omega)⟩

/-- All words of a list. -/
def W64 (xs : List Int) : Prop := ∀ i, 0 ≤ xs.getD i 0 ∧ xs.getD i 0 ≤ 63
theorem getD_get {xs : List Int} {i : Nat} (h : i < xs.length) : xs.getD i 0 = xs[i] := by
  rw [List.getD_eq_getElem?_getD, List.getElem?_eq_getElem h]; rfl
theorem tabTo_get (f : Int → Int → Int) {n i : Nat} (h : i < n) : (tabTo f n).getD i 0 = f ((i / 64 : Nat) : Int) ((i % 64 : Nat) : Int) := by
  rw [getD_get (by rw [tabTo_len]; exact h)]; simp [tabTo]
theorem list_ext_getD {xs ys : List Int} (hl : xs.length = ys.length) (h : ∀ i, i < xs.length → xs.getD i 0 = ys.getD i 0) : xs = ys := by
  apply List.ext_getElem hl
  intro i h1 h2
  have := h i h1
  rwa [getD_get h1, getD_get h2] at this

/-- least and greatest -/
def minI (f : Nat → Int) (m : Int) : Nat → Int
  | 0 => m
  | n + 1 => min (minI f m n) (f n)
def maxI (f : Nat → Int) (m : Int) : Nat → Int
  | 0 => m
  | n + 1 => max (maxI f m n) (f n)
theorem minI_le (f : Nat → Int) (m : Int) : ∀ n, minI f m n ≤ m ∧ ∀ i, i < n → minI f m n ≤ f i
  | 0 => ⟨Int.le_refl _, fun i hi => absurd hi (Nat.not_lt_zero _)⟩
  | n + 1 => by
    obtain ⟨h1, h2⟩ := minI_le f m n
    rw [minI]
    refine ⟨by omega, fun i hi => ?_⟩
    by_cases e : i = n
    · rw [e]; omega
    · have := h2 i (by omega); omega
theorem minI_is (f : Nat → Int) (m : Int) : ∀ n, minI f m n = m ∨ ∃ i, i < n ∧ minI f m n = f i
  | 0 => .inl rfl
  | n + 1 => by
    rw [minI]
    by_cases e : minI f m n ≤ f n
    · rw [Int.min_eq_left e]
      rcases minI_is f m n with h | ⟨i, hi, h⟩
      · exact .inl h
      · exact .inr ⟨i, by omega, h⟩
    · rw [Int.min_eq_right (by omega)]; exact .inr ⟨n, by omega, rfl⟩
theorem maxI_ge (f : Nat → Int) (m : Int) : ∀ n, m ≤ maxI f m n ∧ ∀ i, i < n → f i ≤ maxI f m n
  | 0 => ⟨Int.le_refl _, fun i hi => absurd hi (Nat.not_lt_zero _)⟩
  | n + 1 => by
    obtain ⟨h1, h2⟩ := maxI_ge f m n
    rw [maxI]
    refine ⟨by omega, fun i hi => ?_⟩
    by_cases e : i = n
    · rw [e]; omega
    · have := h2 i (by omega); omega
theorem maxI_is (f : Nat → Int) (m : Int) : ∀ n, maxI f m n = m ∨ ∃ i, i < n ∧ maxI f m n = f i
  | 0 => .inl rfl
  | n + 1 => by
    rw [maxI]
    by_cases e : f n ≤ maxI f m n
    · rw [Int.max_eq_left e]
      rcases maxI_is f m n with h | ⟨i, hi, h⟩
      · exact .inl h
      · exact .inr ⟨i, by omega, h⟩
    · rw [Int.max_eq_right (by omega)]; exact .inr ⟨n, by omega, rfl⟩
/-- Starting at a bound or at the first one is alike. -/
theorem minI_start {f : Nat → Int} {m : Int} {n : Nat} (hn : 0 < n) (h : ∀ i, i < n → f i ≤ m) : minI f m n = minI f (f 0) n := by
  have a := minI_le f m n
  have b := minI_le f (f 0) n
  have c : ∃ i, i < n ∧ minI f m n = f i := by
    rcases minI_is f m n with h1 | h1
    · have := a.2 0 hn; have := h 0 hn; exact ⟨0, hn, by omega⟩
    · exact h1
  have d : ∃ i, i < n ∧ minI f (f 0) n = f i := by
    rcases minI_is f (f 0) n with h1 | h1
    · exact ⟨0, hn, h1⟩
    · exact h1
  obtain ⟨i, hi, ei⟩ := c
  obtain ⟨j, hj, ej⟩ := d
  have := a.2 j hj; have := b.2 i hi; omega
theorem maxI_start {f : Nat → Int} {m : Int} {n : Nat} (hn : 0 < n) (h : ∀ i, i < n → m ≤ f i) : maxI f m n = maxI f (f 0) n := by
  have a := maxI_ge f m n
  have b := maxI_ge f (f 0) n
  have c : ∃ i, i < n ∧ maxI f m n = f i := by
    rcases maxI_is f m n with h1 | h1
    · have := a.2 0 hn; have := h 0 hn; exact ⟨0, hn, by omega⟩
    · exact h1
  have d : ∃ i, i < n ∧ maxI f (f 0) n = f i := by
    rcases maxI_is f (f 0) n with h1 | h1
    · exact ⟨0, hn, h1⟩
    · exact h1
  obtain ⟨i, hi, ei⟩ := c
  obtain ⟨j, hj, ej⟩ := d
  have := a.2 j hj; have := b.2 i hi; omega
end Go.Proofs.Ytmhdijklindipaa

/- ExpandExpr: what it answers. No program. -/
namespace Go.Proofs.Ytmhdijklindipaa
open Go.RowKit
set_option linter.unusedVariables false

/-- The program's walk, as a change of the builder's state. -/
def ew (es : List Nd) : Nat → Nat → List Nd × Bool → (List Nd × Bool) × Int
  | 0, _, s => (s, 0)
  | F + 1, i, s => if s.2 = true then (s, 0) else bp (woN (ew es F) (es.getD i zeroNd) s).1 (woN (ew es F) (es.getD i zeroNd) s).2
/-- The model's walk. -/
def woM (T : Nat → List Nd → List Nd × Int) (n : Nd) (xs : List Nd) : List Nd × Nd :=
  if ar n.op = 1 then ((T n.a.toNat xs).1, ⟨n.op, (T n.a.toNat xs).2, 0, n.v⟩)
  else if ar n.op = 2 then ((T n.b.toNat (T n.a.toNat xs).1).1, ⟨n.op, (T n.a.toNat xs).2, (T n.b.toNat (T n.a.toNat xs).1).2, n.v⟩)
  else (xs, ⟨n.op, 0, 0, n.v⟩)
def mw (es : List Nd) : Nat → Nat → List Nd → List Nd × Int
  | 0, _, xs => (xs, 0)
  | F + 1, i, xs => if 24 < xs.length then (xs, 0) else ((woM (mw es F) (es.getD i zeroNd) xs).1 ++ [(woM (mw es F) (es.getD i zeroNd) xs).2], ((woM (mw es F) (es.getD i zeroNd) xs).1.length : Int))
/-- The tree itself, from the index o on. -/
def tr (es : List Nd) : Nat → Nat → Nat → List Nd
  | 0, _, _ => []
  | F + 1, o, i =>
    let n := es.getD i zeroNd
    if ar n.op = 1 then
      let la := tr es F o n.a.toNat
      la ++ [⟨n.op, ((o + la.length : Nat) : Int) - 1, 0, n.v⟩]
    else if ar n.op = 2 then
      let la := tr es F o n.a.toNat
      let lb := tr es F (o + la.length) n.b.toNat
      la ++ lb ++ [⟨n.op, ((o + la.length : Nat) : Int) - 1, ((o + la.length + lb.length : Nat) : Int) - 1, n.v⟩]
    else [⟨n.op, 0, 0, n.v⟩]
theorem tr_pos (es : List Nd) (F o i : Nat) : 1 ≤ (tr es (F + 1) o i).length := by
  rw [tr]; simp only []
  split
  · simp
  · split <;> (simp; try omega)

theorem getD_nd {es : List Nd} {i : Nat} (h : i < es.length) : es.getD i zeroNd = es[i] := by rw [List.getD_eq_getElem?_getD, List.getElem?_eq_getElem h]; rfl

theorem ew_failed (es : List Nd) (F i : Nat) (xs : List Nd) : ew es F i (xs, true) = ((xs, true), 0) := by
  cases F with
  | zero => rfl
  | succ F => unfold ew; rw [if_pos rfl]
theorem bp_failed (xs : List Nd) (y : Nd) : bp (xs, true) y = ((xs, true), 0) := by unfold bp; split <;> simp_all
theorem bp_room {xs : List Nd} (y : Nd) (h : xs.length < 24) : bp (xs, false) y = ((xs ++ [y], false), (xs.length : Int)) := by
  unfold bp; rw [if_neg (by simpa using h), if_neg (by simp)]
theorem bp_full {xs : List Nd} (fl : Bool) (y : Nd) (h : 24 ≤ xs.length) : bp (xs, fl) y = ((xs, true), 0) := by
  unfold bp; rw [if_pos (by simpa using h)]

/-- What both walks come to. -/
def Fit (x : Nat) (R : (List Nd × Bool) × Int) (xs l : List Nd) : Prop :=
  (xs.length + l.length ≤ 24 → R = ((xs ++ l, false), ((xs.length + l.length : Nat) : Int) - 1)) ∧ (24 < xs.length + l.length → ∃ zs r, R = ((zs, true), r))

theorem ew_tr {es : List Nd} (hok : okFrom es 0 = true) : ∀ (F i : Nat) (xs : List Nd), i < F → i < es.length → xs.length ≤ 24 → Fit 0 (ew es F i (xs, false)) xs (tr es F xs.length i) := by
  intro F
  induction F with
  | zero => intro i xs h; omega
  | succ F ih =>
    intro i xs hi hie hx
    have hnd := ok_get hok hie
    have e := getD_nd hie
    have hE : ew es (F + 1) i (xs, false) = bp (woN (ew es F) es[i] (xs, false)).1 (woN (ew es F) es[i] (xs, false)).2 := by rw [ew, if_neg (by simp), e]
    rw [hE]
    unfold tr; simp only []; rw [e]
    clear hE e
    generalize es[i] = n at *
    rcases ar_cases_nd hnd with ⟨h1, -, -, -, -⟩ | ⟨h1, -, -, ha, ha', -⟩ | ⟨h1, -, -, ha, ha', hb, hb'⟩
    · rw [if_neg (by omega), if_neg (by omega)]
      unfold woN; rw [if_neg (by omega), if_neg (by omega)]
      refine ⟨fun h => ?_, fun h => ?_⟩
      · simp only [List.length_cons, List.length_nil] at h ⊢
        rw [bp_room _ (by omega)]; simp
      · simp only [List.length_cons, List.length_nil] at h
        rw [bp_full _ _ (by omega)]; exact ⟨_, _, rfl⟩
    · rw [if_pos h1]
      unfold woN; rw [if_pos h1]
      obtain ⟨i1, i2⟩ := ih n.a.toNat xs (by omega) (by omega) hx
      generalize tr es F xs.length n.a.toNat = la at *
      refine ⟨fun h => ?_, fun h => ?_⟩
      · simp only [List.length_append, List.length_cons, List.length_nil] at h ⊢
        rw [i1 (by omega)]
        simp only
        rw [bp_room _ (by simp; omega)]; simp; omega
      · simp only [List.length_append, List.length_cons, List.length_nil] at h
        by_cases h9 : xs.length + la.length ≤ 24
        · rw [i1 h9]; rw [bp_full _ _ (by simp; omega)]; exact ⟨_, _, rfl⟩
        · obtain ⟨zs, r, h8⟩ := i2 (by omega)
          rw [h8, bp_failed]; exact ⟨_, _, rfl⟩
    · rw [if_neg (by omega), if_pos h1]
      unfold woN; rw [if_neg (by omega), if_pos h1]
      obtain ⟨i1, i2⟩ := ih n.a.toNat xs (by omega) (by omega) hx
      generalize tr es F xs.length n.a.toNat = la at *
      by_cases h9 : xs.length + la.length ≤ 24
      · obtain ⟨j1, j2⟩ := ih n.b.toNat (xs ++ la) (by omega) (by omega) (by simpa using h9)
        rw [List.length_append] at j1 j2
        generalize tr es F (xs.length + la.length) n.b.toNat = lb at *
        rw [i1 h9]
        refine ⟨fun h => ?_, fun h => ?_⟩
        · simp only [List.length_append, List.length_cons, List.length_nil] at h ⊢
          try simp only
          rw [j1 (by omega)]
          rw [bp_room _ (by simp; omega)]; simp; omega
        · simp only [List.length_append, List.length_cons, List.length_nil] at h
          try simp only
          by_cases h7 : xs.length + la.length + lb.length ≤ 24
          · rw [j1 h7]; rw [bp_full _ _ (by simp; omega)]; exact ⟨_, _, rfl⟩
          · obtain ⟨zs, r, h8⟩ := j2 (by omega)
            rw [h8, bp_failed]; exact ⟨_, _, rfl⟩
      · obtain ⟨zs, r, h8⟩ := i2 (by omega)
        refine ⟨fun h => ?_, fun h => ?_⟩
        · simp only [List.length_append, List.length_cons, List.length_nil] at h; omega
        · rw [h8]; simp only; rw [ew_failed, bp_failed]; exact ⟨_, _, rfl⟩

theorem mw_big (es : List Nd) (F i : Nat) (xs : List Nd) (h : 24 < xs.length) : mw es F i xs = (xs, 0) := by
  cases F with
  | zero => rfl
  | succ F => unfold mw; rw [if_pos h]
theorem mw_len {es : List Nd} : ∀ (F i : Nat) (xs : List Nd), xs.length ≤ 24 → (mw es F i xs).1.length ≤ 24 + F ∧ xs.length ≤ (mw es F i xs).1.length := by
  intro F
  induction F with
  | zero => intro i xs hx; exact ⟨by simpa [mw] using hx, by simp [mw]⟩
  | succ F ih =>
    intro i xs hx
    rw [mw, if_neg (by omega)]
    generalize es.getD i zeroNd = n
    have ha := ih n.a.toNat xs hx
    unfold woM
    split
    · simp only [List.length_append, List.length_cons, List.length_nil]; omega
    · split
      · by_cases h : (mw es F n.a.toNat xs).1.length ≤ 24
        · have hb := ih n.b.toNat _ h
          simp only [List.length_append, List.length_cons, List.length_nil]; omega
        · rw [mw_big es F n.b.toNat _ (by omega)]
          simp only [List.length_append, List.length_cons, List.length_nil]; omega
      · simp only [List.length_append, List.length_cons, List.length_nil]; omega
theorem mw_tr {es : List Nd} (hok : okFrom es 0 = true) : ∀ (F i : Nat) (xs : List Nd), i < F → i < es.length → xs.length ≤ 24 →
    (xs.length + (tr es F xs.length i).length ≤ 24 → mw es F i xs = (xs ++ tr es F xs.length i, ((xs.length + (tr es F xs.length i).length : Nat) : Int) - 1)) ∧ (24 < xs.length + (tr es F xs.length i).length → 24 < (mw es F i xs).1.length) := by
  intro F
  induction F with
  | zero => intro i xs h; omega
  | succ F ih =>
    intro i xs hi hie hx
    have hnd := ok_get hok hie
    have e := getD_nd hie
    have hE : mw es (F + 1) i xs = ((woM (mw es F) es[i] xs).1 ++ [(woM (mw es F) es[i] xs).2], ((woM (mw es F) es[i] xs).1.length : Int)) := by rw [mw, if_neg (by omega), e]
    rw [hE]
    unfold tr; simp only []; rw [e]
    clear hE e
    generalize es[i] = n at *
    rcases ar_cases_nd hnd with ⟨h1, -, -, -, -⟩ | ⟨h1, -, -, ha, ha', -⟩ | ⟨h1, -, -, ha, ha', hb, hb'⟩
    · rw [if_neg (by omega), if_neg (by omega)]
      unfold woM; rw [if_neg (by omega), if_neg (by omega)]
      refine ⟨fun h => ?_, fun h => ?_⟩
      · simp
      · simp only [List.length_append, List.length_cons, List.length_nil] at h ⊢; omega
    · rw [if_pos h1]
      unfold woM; rw [if_pos h1]
      obtain ⟨i1, i2⟩ := ih n.a.toNat xs (by omega) (by omega) hx
      have hle := (mw_len F n.a.toNat xs hx (es := es)).2
      generalize tr es F xs.length n.a.toNat = la at *
      refine ⟨fun h => ?_, fun h => ?_⟩
      · simp only [List.length_append, List.length_cons, List.length_nil] at h ⊢
        rw [i1 (by omega)]
        simp; omega
      · simp only [List.length_append, List.length_cons, List.length_nil] at h ⊢
        by_cases h9 : xs.length + la.length ≤ 24
        · rw [i1 h9]; simp only [List.length_append]; omega
        · have := i2 (by omega); omega
    · rw [if_neg (by omega), if_pos h1]
      unfold woM; rw [if_neg (by omega), if_pos h1]
      obtain ⟨i1, i2⟩ := ih n.a.toNat xs (by omega) (by omega) hx
      have hle := (mw_len F n.a.toNat xs hx (es := es)).2
      generalize tr es F xs.length n.a.toNat = la at *
      by_cases h9 : xs.length + la.length ≤ 24
      · obtain ⟨j1, j2⟩ := ih n.b.toNat (xs ++ la) (by omega) (by omega) (by simpa using h9)
        rw [List.length_append] at j1 j2
        generalize tr es F (xs.length + la.length) n.b.toNat = lb at *
        rw [i1 h9]
        refine ⟨fun h => ?_, fun h => ?_⟩
        · simp only [List.length_append, List.length_cons, List.length_nil] at h ⊢
          try simp only
          rw [j1 (by omega)]
          simp; omega
        · simp only [List.length_append, List.length_cons, List.length_nil] at h ⊢
          by_cases h7 : xs.length + la.length + lb.length ≤ 24
          · rw [j1 h7]; simp only [List.length_append]; omega
          · have := j2 (by omega); omega
      · have h8 := i2 (by omega)
        refine ⟨fun h => ?_, fun h => ?_⟩
        · simp only [List.length_append, List.length_cons, List.length_nil] at h; omega
        · simp only [List.length_append, List.length_cons, List.length_nil]
          rw [mw_big es F n.b.toNat _ h8]; dsimp only; omega

def expandL (es : List Nd) : List Nd := tr es es.length 0 (es.length - 1)
def expandOk (es : List Nd) : Bool := good es && decide ((expandL es).length ≤ 24)
def expandR (es : List Nd) : List Nd := if expandOk es = true then expandL es else []
theorem expandR_len (es : List Nd) : (expandR es).length ≤ 1048576 := by
  unfold expandR; split
  · rename_i h; simp only [expandOk, Bool.and_eq_true, decide_eq_true_eq] at h; omega
  · simp
theorem expand_ew {es : List Nd} (hg : good es = true) : (expandOk es = true ∧ ∃ r, ew es es.length (es.length - 1) ([], false) = ((expandR es, false), r)) ∨ (expandOk es = false ∧ expandR es = [] ∧ ∃ zs r, ew es es.length (es.length - 1) ([], false) = ((zs, true), r)) := by
  obtain ⟨hl1, hl24, hok⟩ := good_len hg
  obtain ⟨h1, h2⟩ := ew_tr hok es.length (es.length - 1) [] (by omega) (by omega) (by simp)
  simp only [List.length_nil, Nat.zero_add, List.nil_append] at h1 h2
  by_cases h : (expandL es).length ≤ 24
  · have hk : expandOk es = true := by simp [expandOk, hg, h]
    left; refine ⟨hk, ?_⟩
    rw [h1 h, expandR, if_pos hk]; exact ⟨_, rfl⟩
  · have hk : expandOk es = false := by simp [expandOk, h]
    right; refine ⟨hk, by simp [expandR, hk], ?_⟩
    exact h2 (by unfold expandL at h; omega)
theorem expand_mw {es : List Nd} (hg : good es = true) : (expandOk es = true ∧ (mw es es.length (es.length - 1) []).1 = expandR es ∧ (expandR es).length ≤ 24) ∨ (expandOk es = false ∧ expandR es = [] ∧ 24 < (mw es es.length (es.length - 1) []).1.length) := by
  obtain ⟨hl1, hl24, hok⟩ := good_len hg
  obtain ⟨h1, h2⟩ := mw_tr hok es.length (es.length - 1) [] (by omega) (by omega) (by simp)
  simp only [List.length_nil, Nat.zero_add, List.nil_append] at h1 h2
  by_cases h : (expandL es).length ≤ 24
  · have hk : expandOk es = true := by simp [expandOk, hg, h]
    left; refine ⟨hk, ?_⟩
    rw [h1 h, expandR, if_pos hk]; exact ⟨rfl, h⟩
  · have hk : expandOk es = false := by simp [expandOk, h]
    right; refine ⟨hk, by simp [expandR, hk], ?_⟩
    exact h2 (by unfold expandL at h; omega)
end Go.Proofs.Ytmhdijklindipaa
